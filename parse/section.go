package parse

import "bluebell/api"

func (r *reader) section() api.Section {
	var s api.Section
	if r.take("section") {
		s.Name = r.kind(api.TString).S
	}
	for {
		d, ok := r.declaration(s.Decls)
		if !ok {
			return s
		}
		checkDepth(d, d.At)
		s.Decls = append(s.Decls, d)
	}
}

// declaration reads a declaration behind others. It is not ok if there is none.
func (r *reader) declaration(before []api.Node) (d api.Node, ok bool) {
	at := r.token().At
	switch {
	case r.take("manifest"):
		return r.constants(api.DManifest, "=", at), true
	case r.take("static"):
		return r.constants(api.DStatic, "=", at), true
	case r.take("global"):
		return r.constants(api.DGlobal, ":", at), true
	case r.take("let"):
		return r.procedure(at), true
	case len(before) > 0 && before[len(before)-1].Op == api.DProc && r.take("and"):
		return r.procedure(at), true
	}
	return api.Node{}, false
}

// constants reads what stands in the braces behind manifest and its like; the sign is between a name and its expression.
func (r *reader) constants(op int, sign string, at int) api.Node {
	n := api.Node{Op: op, At: at}
	r.want("{")
	if !r.is("}") {
		n.L = r.pairs(sign)
	}
	r.want("}")
	return r.made(n)
}

func (r *reader) pairs(sign string) []api.Node {
	var l []api.Node
	for {
		name := r.kind(api.TName)
		r.want(sign)
		e := r.expression()
		l = append(l, r.made(api.Node{Op: api.DConst, S: name.S, L: []api.Node{e}, At: name.At}))
		if !r.take(";") {
			return l
		}
	}
}

func (r *reader) procedure(at int) api.Node {
	name := r.kind(api.TName)
	n := api.Node{Op: api.DProc, S: name.S, At: at}
	r.want("(")
	if !r.is(")") {
		n.L = r.names()
	}
	r.want(")")
	var body api.Node
	if r.take("be") {
		n.N = 1
		body = r.command()
	} else {
		r.want("=")
		body = r.expression()
	}
	n.L = append(n.L, body)
	return r.made(n)
}
