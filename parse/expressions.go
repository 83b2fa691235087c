package parse

import (
	"slices"

	"bluebell/api"
)

// beginsExpression reports whether an expression may begin with a token.
func beginsExpression(t api.Token) bool {
	switch t.Kind {
	case api.TNumber, api.TString, api.TName:
		return true
	case api.TKey, api.TSign:
		return slices.Contains([]string{"true", "false", "?", "(", "valof", "table", "slct", "!", "@", "~", "-"}, t.S)
	}
	return false
}

// expressions reads expressions with commas between them, behind those that a list has: it has at most so many.
func (r *reader) expressions(l []api.Node, most int) []api.Node {
	for {
		t := r.token()
		if len(l) == most && beginsExpression(t) {
			panic(failure{api.ErrLimit, t.At})
		}
		l = append(l, r.expression())
		if !r.take(",") {
			return l
		}
	}
}

func (r *reader) expression() api.Node {
	first := r.level(levelFirst)
	if !r.is("->") {
		return first
	}
	r.enter("->")
	second := r.expression()
	r.want(",")
	third := r.expression()
	r.leave()
	return r.made(api.Node{Op: api.ECond, L: []api.Node{first, second, third}, At: first.At})
}

// level reads an expression of a level from 1 on.
func (r *reader) level(level int) api.Node {
	left := r.first(level)
	for {
		o, ok := operatorAt(r.token(), level)
		if !ok {
			return left
		}
		r.next++
		right := r.level(o.rightLevel())
		left = r.made(api.Node{Op: o.op, N: o.n, L: []api.Node{left, right}, At: left.At})
		if level == levelRelation {
			return left
		}
	}
}

// first reads what stands before the first operator of a level.
func (r *reader) first(level int) api.Node {
	switch {
	case level == levelNot && r.is("~"):
		return r.prefixed(api.Node{Op: api.EUn, N: api.Not}, levelNot)
	case level == levelSum && r.is("-"):
		return r.negative()
	case level == levelPrefix && r.is("!"):
		return r.prefixed(api.Node{Op: api.ELoad}, levelPrefix)
	case level == levelPrefix && r.is("@"):
		return r.prefixed(api.Node{Op: api.EAddr}, levelPrefix)
	case level == levelPrefix:
		return r.calls()
	}
	return r.level(level + 1)
}

// prefixed reads a prefix and its part.
func (r *reader) prefixed(n api.Node, level int) api.Node {
	t := r.token()
	r.enter(t.S)
	part := r.level(level)
	r.leave()
	n.L, n.At = []api.Node{part}, t.At
	return r.made(n)
}

func (r *reader) negative() api.Node {
	at := r.token().At
	r.want("-")
	part := r.level(levelSum + 1)
	return r.made(api.Node{Op: api.EUn, N: api.Neg, L: []api.Node{part}, At: at})
}

// calls reads an e11 and the calls behind it.
func (r *reader) calls() api.Node {
	n := r.simple()
	for r.is("(") {
		l := []api.Node{n}
		r.enter("(")
		if !r.is(")") {
			l = r.expressions(l, 1+api.MaxArgs)
		}
		r.want(")")
		r.leave()
		n = r.made(api.Node{Op: api.ECall, L: l, At: n.At})
	}
	return n
}

// simple reads an e11.
func (r *reader) simple() api.Node {
	t := r.token()
	switch t.Kind {
	case api.TNumber:
		return r.leaf(api.Node{Op: api.ENum, N: t.N})
	case api.TString:
		return r.leaf(api.Node{Op: api.EStr, S: t.S})
	case api.TName:
		return r.leaf(api.Node{Op: api.EName, S: t.S})
	}
	switch {
	case r.is("true"):
		return r.leaf(api.Node{Op: api.ETrue})
	case r.is("false"):
		return r.leaf(api.Node{Op: api.EFalse})
	case r.is("?"):
		return r.leaf(api.Node{Op: api.EAny})
	case r.is("("):
		return r.group()
	case r.take("valof"):
		block := r.block()
		return r.made(api.Node{Op: api.EValof, L: []api.Node{block}, At: t.At})
	case r.take("table"):
		return r.table(t.At)
	case r.take("slct"):
		return r.selector(t.At)
	}
	panic(r.unexpected())
}

func (r *reader) group() api.Node {
	r.enter("(")
	n := r.expression()
	r.want(")")
	r.leave()
	return n
}

func (r *reader) table(at int) api.Node {
	r.enter("(")
	l := r.expressions(nil, api.MaxString)
	r.want(")")
	r.leave()
	return r.made(api.Node{Op: api.ETable, L: l, At: at})
}

func (r *reader) selector(at int) api.Node {
	r.enter("(")
	size := r.expression()
	r.want(",")
	shift := r.expression()
	r.want(",")
	offset := r.expression()
	r.want(")")
	r.leave()
	return r.made(api.Node{Op: api.ESlct, L: []api.Node{size, shift, offset}, At: at})
}
