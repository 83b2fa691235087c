package mean

import "bluebell/api"

// command makes a command that is no item. Every one is a step when it is come to.
func (b *builder) command(n api.Node) command {
	return stepping(b.running(n))
}

func stepping(run command) command {
	return func(c *call) exit {
		c.step()
		return run(c)
	}
}

// running makes what a command does behind its step.
func (b *builder) running(n api.Node) command {
	switch n.Op {
	case api.CAssign:
		return b.assignment(n)
	case api.CCall:
		return b.doing(n.L[0])
	case api.CIf, api.CUnless:
		return b.decision(n)
	case api.CTest:
		return b.test(n)
	case api.CWhile, api.CUntil, api.CRepeat, api.CRepWh, api.CRepUn:
		return b.loop(n)
	case api.CFor:
		return b.counting(n)
	case api.CSwitch:
		return b.switching(n)
	case api.CResult:
		return b.result(n.L[0])
	case api.CFinish:
		return func(*call) exit { panic(ending{end: api.Stopped}) }
	case api.CBlock:
		k := b.makeBlock(n.L)
		return func(c *call) exit { return k.run(c, place{}) }
	}
	return leaving(b.exitOf(n))
}

// exitOf returns the exit of a command that does nothing else.
func (b *builder) exitOf(n api.Node) exit {
	switch n.Op {
	case api.CBreak:
		return broken
	case api.CLoop:
		return looped
	case api.CEndcase:
		return endcased
	case api.CReturn:
		return returned
	case api.CGoto:
		label, _ := last(b.labels, n.S)
		return exit(label)
	}
	return onward // CNull
}

func leaving(e exit) command {
	return func(*call) exit { return e }
}

// doing makes what computes an expression and drops its value.
func (b *builder) doing(n api.Node) command {
	compute := b.expression(n)
	return func(c *call) exit {
		compute(c)
		return onward
	}
}

func (b *builder) result(n api.Node) command {
	compute := b.expression(n)
	return func(c *call) exit {
		c.result = compute(c)
		return resulted
	}
}

func (b *builder) decision(n api.Node) command {
	holds, then := b.condition(n.L[0], n.Op == api.CIf), b.command(n.L[1])
	return func(c *call) exit {
		if holds(c) {
			return then(c)
		}
		return onward
	}
}

func (b *builder) test(n api.Node) command {
	holds, then, otherwise := b.condition(n.L[0], true), b.command(n.L[1]), b.command(n.L[2])
	return func(c *call) exit {
		if holds(c) {
			return then(c)
		}
		return otherwise(c)
	}
}

func (b *builder) assignment(n api.Node) command {
	var pairs []func(c *call)
	for i := range n.N {
		pairs = append(pairs, b.pair(n.L[i], b.expression(n.L[n.N+i])))
	}
	return func(c *call) exit {
		for _, assign := range pairs {
			assign(c)
		}
		return onward
	}
}

// pair makes what assigns to a left, which is no step itself.
func (b *builder) pair(left api.Node, right expression) func(c *call) {
	if left.Op == api.EName {
		find := b.variable(left.S)
		return func(c *call) {
			v := right(c)
			c.store(address{of: find(c)}, v)
		}
	}
	if left.Op == api.ESel {
		x, part := b.fieldOf(left.L[0]), b.expression(left.L[1])
		return func(c *call) {
			p := part(c)
			c.storeField(x, p, right(c))
		}
	}
	parts := b.expressions(left.L)
	store := storing(left.Op)
	return func(c *call) {
		v := right(c)
		var l [2]value
		for i, part := range parts {
			l[i] = part(c)
		}
		store(c, l, v)
	}
}

// storing returns what stores a value in a left by the values of its parts.
func storing(op int) func(c *call, parts [2]value, v value) {
	switch op {
	case api.ESub:
		return func(c *call, parts [2]value, v value) { c.store(reach(parts[0], parts[1]), v) }
	case api.EByte:
		return func(c *call, parts [2]value, v value) { c.storeByte(parts[0], parts[1], v) }
	}
	return func(c *call, parts [2]value, v value) { c.store(addressOf(parts[0]), v) }
}
