package mean

import "bluebell/api"

// block is a block whose items can be run from several places on.
type block struct {
	items      []command
	slots      int      // the slot of its first local; the others follow
	locals     int      // how many it has; while it is made, how many are declared so far
	label      exit     // to its first label; the others follow
	labels     []*place // in order
	cases      map[int]*place
	others     *place // its default
	keepsCases bool   // the constants of its cases are narrow
}

// place is a place in a block to which a jump may lead, or, without a command, its beginning.
type place struct {
	item    int     // the item in which it is
	command command // what is run of this item
	locals  int     // how many of the block's locals are declared before it
}

// makeBlock makes a block of its items. All its labels are known from the beginning, its locals as they come.
func (b *builder) makeBlock(items []api.Node) *block {
	outside := *b
	k := &block{slots: b.slots, label: firstLabel + b.exits, cases: map[int]*place{}, keepsCases: true}
	b.slots += localsOf(items)
	for _, name := range labelsOf(items) {
		b.labels = append(b.labels, known{name, int(k.label) + len(k.labels)})
		k.labels = append(k.labels, &place{})
	}
	b.exits += exit(len(k.labels))
	b.block = k
	for i, n := range items {
		b.item = i
		k.items = append(k.items, b.makeItem(n))
	}
	b.locals, b.labels, b.block, b.item = outside.locals, outside.labels, outside.block, outside.item
	return k
}

// localsOf returns how many locals the items of a block declare.
func localsOf(items []api.Node) int {
	count := 0
	for _, n := range items {
		switch n.Op {
		case api.CLet:
			count += n.N
		case api.CVec:
			count++
		}
	}
	return count
}

// isMark reports whether a node stands before a command that is an item, too, if the node is one.
func isMark(n api.Node) bool {
	return n.Op == api.CLabel || n.Op == api.CCase || n.Op == api.CDefault
}

// labelsOf returns the names of the labels among the items of a block.
func labelsOf(items []api.Node) []string {
	var names []string
	for _, n := range items {
		for isMark(n) {
			if n.Op == api.CLabel {
				names = append(names, n.S)
			}
			n = n.L[len(n.L)-1]
		}
	}
	return names
}

// makeItem makes an item of the block.
func (b *builder) makeItem(n api.Node) command {
	switch {
	case isMark(n):
		return b.mark(n)
	case n.Op == api.CLet:
		return stepping(b.let(n))
	case n.Op == api.CVec:
		return stepping(b.vector(n))
	}
	return b.command(n)
}

// mark makes a label, case or default, and notes the place.
func (b *builder) mark(n api.Node) command {
	p := b.placeOf(n)
	run := stepping(b.makeItem(n.L[len(n.L)-1]))
	*p = place{b.item, run, b.block.locals}
	return run
}

// placeOf returns the place of a label, case or default, to be told. It is asked for before the command behind is made, since the first of several equal cases counts.
func (b *builder) placeOf(n api.Node) *place {
	k := b.block
	switch n.Op {
	case api.CLabel:
		label, _ := last(b.labels, n.S)
		return k.labels[label-int(k.label)]
	case api.CDefault:
		k.others = &place{}
		return k.others
	}
	constant, p := b.eval(n.L[0]), &place{}
	k.keepsCases = k.keepsCases && isNarrow(constant)
	word := int(normed(constant, b.form))
	if k.cases[word] == nil {
		k.cases[word] = p
	}
	return p
}

// declare makes a local of the block known.
func (b *builder) declare(name string) int {
	slot := b.block.slots + b.block.locals
	b.block.locals++
	b.locals = append(b.locals, known{name, slot})
	return slot
}

func (b *builder) let(n api.Node) command {
	values := b.expressions(n.L[n.N:])
	var slots []int
	for _, name := range n.L[:n.N] {
		slots = append(slots, b.declare(name.S))
	}
	return func(c *call) exit {
		locals := make([]*object, len(slots))
		for i, compute := range values {
			locals[i] = newLocal(compute(c))
		}
		for i, slot := range slots {
			c.locals[slot] = locals[i]
		}
		return onward
	}
}

func (b *builder) vector(n api.Node) command {
	cells := b.eval(n.L[0]) + 1
	slot := b.declare(n.S)
	return func(c *call) exit {
		v := newVector(cells)
		o := newLocal(address{of: v})
		o.vector = v
		c.locals[slot] = o
		return onward
	}
}

// switching makes a CSwitch. Its block does not begin where no case is found.
func (b *builder) switching(n api.Node) command {
	compute, k := b.expression(n.L[0]), b.makeBlock(n.L[1].L)
	return func(c *call) exit {
		c.keep(k.keepsCases)
		at, ok := k.cases[int(numberOf(compute(c)))]
		if !ok {
			at = k.others
		}
		if at == nil {
			return onward
		}
		c.step()
		return k.run(c, *at).past(endcased)
	}
}

// run runs a block from a place on, and from its labels to which jumps lead.
func (k *block) run(c *call, at place) exit {
	for {
		k.arrive(c, at)
		e := k.runItems(c, at)
		if e < k.label { // no jump leads into a block within, whose labels come behind these
			c.end(k.slots, k.slots+k.locals)
			return e
		}
		at = *k.labels[e-k.label]
	}
}

// runItems runs items up to the end, or until one is left otherwise.
func (k *block) runItems(c *call, at place) exit {
	items := k.items
	if at.command != nil {
		if e := at.command(c); e != onward {
			return e
		}
		items = items[at.item+1:]
	}
	for _, run := range items {
		if e := run(c); e != onward {
			return e
		}
	}
	return onward
}

// arrive makes the locals of a block as they are at a place: there before it, and not behind it.
func (k *block) arrive(c *call, at place) {
	for i := k.slots; i < k.slots+at.locals; i++ {
		if c.locals[i] == nil {
			c.locals[i] = newLocal(nil)
		}
	}
	c.end(k.slots+at.locals, k.slots+k.locals)
}
