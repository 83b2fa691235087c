package mean

import "bluebell/api"

// leavesLoop reports whether a loop ends where its command was left so.
func (e exit) leavesLoop() bool {
	return e != onward && e != looped
}

// loop makes a loop with a condition before its command, behind it, or with none.
func (b *builder) loop(n api.Node) command {
	body, before, behind := n.L[0], endless, endless
	switch n.Op {
	case api.CWhile, api.CUntil:
		body, before = n.L[1], b.condition(n.L[0], n.Op == api.CWhile)
	case api.CRepWh, api.CRepUn:
		behind = b.condition(n.L[1], n.Op == api.CRepWh)
	}
	run := b.command(body)
	return func(c *call) exit {
		for before(c) {
			if e := run(c); e.leavesLoop() {
				return e.past(broken)
			}
			if !behind(c) {
				break
			}
		}
		return onward
	}
}

func endless(*call) bool {
	return true
}

// counter is a CFor behind its from and to.
type counter struct {
	slot int
	by   int    // as it stands: its sign tells the way
	step number // what is added
	run  command
}

func (b *builder) counting(n api.Node) command {
	from, to := b.expression(n.L[0]), b.expression(n.L[1])
	x := counter{by: 1}
	if n.N == 1 {
		x.by = b.eval(n.L[2])
	}
	x.step = normed(x.by, b.form)
	outside := len(b.locals)
	x.slot = b.know(n.S)
	x.run = b.command(n.L[len(n.L)-1])
	b.locals = b.locals[:outside]
	return func(c *call) exit {
		c.keep(isNarrow(x.by))
		first := from(c)
		limit := to(c)
		c.locals[x.slot] = newLocal(first)
		e := x.count(c, limit)
		c.end(x.slot, x.slot+1)
		return e
	}
}

// count runs the turns.
func (x counter) count(c *call, limit value) exit {
	local := address{of: c.locals[x.slot]}
	for x.goesOn(numberOf(c.load(local)), numberOf(limit)) {
		if e := x.run(c); e.leavesLoop() {
			return e.past(broken)
		}
		c.store(local, c.apply(api.Add, numberOf(c.load(local)), x.step))
	}
	return onward
}

func (x counter) goesOn(n, limit number) bool {
	if x.by > 0 {
		return n <= limit
	}
	return n >= limit
}
