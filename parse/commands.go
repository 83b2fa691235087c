package parse

import "bluebell/api"

func (r *reader) command() api.Node {
	t := r.token()
	switch {
	case t.Kind == api.TName && r.before(":"):
		return r.label()
	case r.take("if"):
		return r.guarded(api.CIf, t.At)
	case r.take("unless"):
		return r.guarded(api.CUnless, t.At)
	case r.take("while"):
		return r.guarded(api.CWhile, t.At)
	case r.take("until"):
		return r.guarded(api.CUntil, t.At)
	case r.take("test"):
		return r.test(t.At)
	case r.take("for"):
		return r.counted(t.At)
	case r.take("switchon"):
		return r.choice(t.At)
	case r.take("case"):
		constant := r.expression()
		r.want(":")
		behind := r.command()
		return r.made(api.Node{Op: api.CCase, L: []api.Node{constant, behind}, At: t.At})
	case r.take("default"):
		r.want(":")
		behind := r.command()
		return r.made(api.Node{Op: api.CDefault, L: []api.Node{behind}, At: t.At})
	case r.is("repeat"), r.is("repeatwhile"), r.is("repeatuntil"):
		panic(r.unexpected())
	}
	if n, ok := r.basic(); ok {
		return r.repeated(n)
	}
	return r.made(api.Node{Op: api.CNull, At: t.At})
}

func (r *reader) label() api.Node {
	name := r.kind(api.TName)
	r.want(":")
	behind := r.command()
	return r.made(api.Node{Op: api.CLabel, S: name.S, L: []api.Node{behind}, At: name.At})
}

// guarded reads the condition and the command of an if and its like.
func (r *reader) guarded(op, at int) api.Node {
	condition := r.expression()
	r.want("do")
	command := r.command()
	return r.made(api.Node{Op: op, L: []api.Node{condition, command}, At: at})
}

func (r *reader) test(at int) api.Node {
	condition := r.expression()
	r.want("then")
	first := r.command()
	r.want("else")
	second := r.command()
	return r.made(api.Node{Op: api.CTest, L: []api.Node{condition, first, second}, At: at})
}

// counted reads what stands behind for.
func (r *reader) counted(at int) api.Node {
	name := r.kind(api.TName)
	n := api.Node{Op: api.CFor, S: name.S, At: at}
	r.want("=")
	from := r.expression()
	r.want("to")
	to := r.expression()
	n.L = []api.Node{from, to}
	if r.take("by") {
		n.N = 1
		n.L = append(n.L, r.expression())
	}
	r.want("do")
	n.L = append(n.L, r.command())
	return r.made(n)
}

// choice reads what stands behind switchon.
func (r *reader) choice(at int) api.Node {
	value := r.expression()
	r.want("into")
	block := r.block()
	return r.made(api.Node{Op: api.CSwitch, L: []api.Node{value, block}, At: at})
}

// repeated reads the forms of repeat behind a command.
func (r *reader) repeated(n api.Node) api.Node {
	for {
		switch {
		case r.take("repeat"):
			n = r.made(api.Node{Op: api.CRepeat, L: []api.Node{n}, At: n.At})
		case r.take("repeatwhile"):
			condition := r.expression()
			n = r.made(api.Node{Op: api.CRepWh, L: []api.Node{n, condition}, At: n.At})
		case r.take("repeatuntil"):
			condition := r.expression()
			n = r.made(api.Node{Op: api.CRepUn, L: []api.Node{n, condition}, At: n.At})
		default:
			return n
		}
	}
}

// basic reads a basic. It is not ok if there is none.
func (r *reader) basic() (n api.Node, ok bool) {
	t := r.token()
	switch {
	case beginsExpression(t):
		return r.assignmentOrCall(), true
	case r.is("{"):
		return r.block(), true
	case r.is("break"):
		return r.leaf(api.Node{Op: api.CBreak}), true
	case r.is("loop"):
		return r.leaf(api.Node{Op: api.CLoop}), true
	case r.is("endcase"):
		return r.leaf(api.Node{Op: api.CEndcase}), true
	case r.is("return"):
		return r.leaf(api.Node{Op: api.CReturn}), true
	case r.is("finish"):
		return r.leaf(api.Node{Op: api.CFinish}), true
	case r.take("resultis"):
		e := r.expression()
		return r.made(api.Node{Op: api.CResult, L: []api.Node{e}, At: t.At}), true
	case r.take("goto"):
		name := r.kind(api.TName)
		return r.made(api.Node{Op: api.CGoto, S: name.S, At: t.At}), true
	}
	return api.Node{}, false
}

func (r *reader) assignmentOrCall() api.Node {
	first := r.expression()
	lefts := []api.Node{first}
	if r.take(",") {
		lefts = r.expressions(lefts, api.MaxArgs)
	}
	if len(lefts) > 1 || r.is(":=") {
		r.want(":=")
		rights := r.asMany(len(lefts))
		return r.made(api.Node{Op: api.CAssign, N: len(lefts), L: append(lefts, rights...), At: first.At})
	}
	if first.Op != api.ECall {
		panic(r.unexpected())
	}
	return r.made(api.Node{Op: api.CCall, L: lefts, At: first.At})
}

// asMany reads as many expressions as stand on the other side.
func (r *reader) asMany(count int) []api.Node {
	var l []api.Node
	for {
		l = append(l, r.expression())
		if r.is(",") != (len(l) < count) {
			panic(r.unexpected()) // a comma too many, or one is missing
		}
		if !r.take(",") {
			return l
		}
	}
}

func (r *reader) block() api.Node {
	n := api.Node{Op: api.CBlock, At: r.token().At}
	r.enter("{")
	for {
		n.L = append(n.L, r.item())
		if !r.take(";") {
			break
		}
	}
	r.want("}")
	r.leave()
	return r.made(n)
}

func (r *reader) item() api.Node {
	at := r.token().At
	if !r.take("let") {
		return r.command()
	}
	if r.before("=", "vec") {
		return r.vector(at)
	}
	names := r.names()
	r.want("=")
	values := r.asMany(len(names))
	return r.made(api.Node{Op: api.CLet, N: len(names), L: append(names, values...), At: at})
}

func (r *reader) vector(at int) api.Node {
	name := r.kind(api.TName)
	r.want("=")
	r.want("vec")
	size := r.expression()
	return r.made(api.Node{Op: api.CVec, S: name.S, L: []api.Node{size}, At: at})
}
