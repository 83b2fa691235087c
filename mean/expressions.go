package mean

import (
	"bluebell/api"
	"bluebell/scope"
)

// expression makes an expression. Every one is a step when it begins.
func (b *builder) expression(n api.Node) expression {
	compute := b.computing(n)
	return func(c *call) value {
		c.step()
		return compute(c)
	}
}

func (b *builder) expressions(l []api.Node) []expression {
	var all []expression
	for _, n := range l {
		all = append(all, b.expression(n))
	}
	return all
}

// computing makes what an expression does behind its step.
func (b *builder) computing(n api.Node) expression {
	switch n.Op {
	case api.ENum:
		return b.constant(n.N)
	case api.ETrue:
		return b.constant(-1)
	case api.EFalse:
		return b.constant(0)
	case api.ESlct:
		return b.constant(b.eval(n))
	case api.EStr:
		return always(address{of: newText(n.S, b.form)})
	case api.ETable:
		return b.table(n)
	case api.EName:
		return b.name(n.S)
	case api.ECall:
		return b.call(n)
	case api.EAddr:
		return b.address(n.L[0])
	case api.ECond:
		return b.choice(n)
	case api.EValof:
		return b.valof(n)
	case api.ESel:
		return b.selection(n)
	case api.EUn:
		return b.unary(n)
	case api.ELoad:
		return b.indirection(n)
	case api.ESub, api.EByte, api.EBin:
		return b.binary(n)
	}
	return always(nil) // EAny
}

func always(v value) expression {
	return func(*call) value { return v }
}

func (b *builder) constant(n int) expression {
	var v value = normed(n, b.form)
	keeps := isNarrow(n)
	return func(c *call) value {
		c.keep(keeps)
		return v
	}
}

func (b *builder) table(n api.Node) expression {
	var numbers []number
	keeps := true
	for _, part := range n.L {
		v := b.eval(part)
		numbers = append(numbers, normed(v, b.form))
		keeps = keeps && isNarrow(v)
	}
	var v value = address{of: newTable(numbers)}
	return func(c *call) value {
		c.keep(keeps)
		return v
	}
}

func (b *builder) name(s string) expression {
	if _, isLocal := last(b.locals, s); !isLocal {
		if p, ok := b.procs[s]; ok {
			return always(p)
		}
		if v, ok := b.constants[s]; ok {
			return b.constant(v)
		}
	}
	find := b.variable(s)
	return func(c *call) value { return c.load(address{of: find(c)}) }
}

func (b *builder) call(n api.Node) expression {
	proc, args := b.expression(n.L[0]), b.expressions(n.L[1:])
	return func(c *call) value {
		values := make([]value, len(args))
		for i, arg := range args {
			values[i] = arg(c)
		}
		p, ok := proc(c).(*procedure)
		if !ok || p.params != len(args) {
			panic(wild())
		}
		return p.begin(c.run, values)
	}
}

// address makes an EAddr of its part, which is no step.
func (b *builder) address(n api.Node) expression {
	switch n.Op {
	case api.ESub:
		left, right := b.expression(n.L[0]), b.expression(n.L[1])
		return func(c *call) value {
			x := left(c)
			return reach(x, right(c))
		}
	case api.ELoad:
		part := b.expression(n.L[0])
		return func(c *call) value { return addressOf(part(c)) }
	}
	find := b.variable(n.S)
	return func(c *call) value { return address{of: find(c)} }
}

// condition makes what tells whether a condition is as it is wanted.
func (b *builder) condition(n api.Node, wanted bool) func(c *call) bool {
	part := b.expression(n)
	return func(c *call) bool { return c.isTrue(part(c)) == wanted }
}

func (b *builder) choice(n api.Node) expression {
	holds, then, otherwise := b.condition(n.L[0], true), b.expression(n.L[1]), b.expression(n.L[2])
	return func(c *call) value {
		if holds(c) {
			return then(c)
		}
		return otherwise(c)
	}
}

// valof makes a block that no jump leaves: scope sees to that.
func (b *builder) valof(n api.Node) expression {
	run := b.command(n.L[0])
	return func(c *call) value {
		if run(c) == resulted {
			return c.result
		}
		return number(0)
	}
}

// fieldOf returns what a selector means. It is taken apart as scope computes it, and is no number of the run.
func (b *builder) fieldOf(selector api.Node) field {
	size, shift, offset, _ := scope.Selector(b.eval(selector))
	return field{size, shift, number(offset)}
}

func (b *builder) selection(n api.Node) expression {
	x, part := b.fieldOf(n.L[0]), b.expression(n.L[1])
	return func(c *call) value { return c.loadField(x, part(c)) }
}

func (b *builder) unary(n api.Node) expression {
	part := b.expression(n.L[0])
	return func(c *call) value { return c.apply(n.N, numberOf(part(c)), 0) }
}

func (b *builder) indirection(n api.Node) expression {
	part := b.expression(n.L[0])
	return func(c *call) value { return c.load(addressOf(part(c))) }
}

// binary makes what has two operands, of which the left one is computed first.
func (b *builder) binary(n api.Node) expression {
	left, right := b.expression(n.L[0]), b.expression(n.L[1])
	switch n.Op {
	case api.ESub:
		return func(c *call) value {
			x := left(c)
			return c.load(reach(x, right(c)))
		}
	case api.EByte:
		return func(c *call) value {
			x := left(c)
			return c.loadByte(x, right(c))
		}
	}
	return func(c *call) value {
		x := left(c)
		return c.operate(n.N, x, right(c))
	}
}
