package scope

import "bluebell/api"

// scopes are the names that are known in each block or the like, the innermost one last.
type scopes []map[string]bool

// inner returns the scopes with a new innermost one. It leaves the list as it is: the parts of one node each go on from the same list.
func (s scopes) inner(names ...string) scopes {
	l := append(scopes{}, s...)
	l = append(l, map[string]bool{})
	for _, name := range names {
		l.add(name)
	}
	return l
}

// add makes a name known in the innermost scope.
func (s scopes) add(name string) {
	s[len(s)-1][name] = true
}

func (s scopes) has(name string) bool {
	for _, names := range s {
		if names[name] {
			return true
		}
	}
	return false
}

// role is what the place of a node makes of it.
type role int

const (
	ordinary    role = iota
	declaring        // a parameter's name, or one of a CLet: no use of the name
	left             // of an assignment
	addressed        // the part of EAddr
	constant         // a part of ETable, the constant of CCase
	size             // of CVec
	step             // the by of CFor
	selecting        // the first part of ESel
	switchBlock      // the block of a CSwitch
)

// asksConstant reports whether a constant has to stand there.
func (r role) asksConstant() bool {
	switch r {
	case constant, size, step, selecting:
		return true
	}
	return false
}

// takes reports whether a constant may stand there.
func (r role) takes(value int) bool {
	switch r {
	case size:
		return 0 <= value && value <= api.MaxVec
	case step:
		return value != 0
	case selecting:
		_, _, _, err := Selector(value)
		return err == api.OK
	}
	return true
}

// place is where a node stands.
type place struct {
	role                      role
	locals                    scopes     // of the procedure
	labels                    scopes     // of the procedure or valof
	before                    []api.Node // the names before one that is declared, in its list
	items                     *items     // what was seen of the block of which the node is an item
	inLoop, inSwitch, inValof bool
}

// items is what a visitor has seen of the items of a block so far.
type items struct {
	ofSwitch   bool
	labels     map[string]bool
	cases      map[int]bool
	hasDefault bool
}

// as returns the place of a part with a role, which is no item.
func (p place) as(r role) place {
	p.role, p.before, p.items = r, nil, nil
	return p
}

// asItem returns the place of an item of a block.
func (p place) asItem(of *items) place {
	p.items = of
	return p
}

// inCommand returns the place of the command of a loop.
func (p place) inCommand() place {
	p.inLoop = true
	return p
}

// ofSwitch returns the place of the block of a CSwitch.
func (p place) ofSwitch() place {
	p = p.as(switchBlock)
	p.inSwitch = true
	return p
}

// ofValof returns the place of the block of a valof, out of which no label and no loop is seen.
func (p place) ofValof() place {
	p.labels, p.inLoop, p.inSwitch, p.inValof = nil, false, false, true
	return p
}

// visitor is called with each node of a tree and its place, a node before its parts, and tells whether the walk goes on.
type visitor func(n api.Node, p place) bool

// walk goes through a valid tree in the order in which it is examined, and reports whether it came to the end.
func (visit visitor) walk(n api.Node, p place) bool {
	if !visit(n, p) {
		return false
	}
	in := p.as(ordinary)
	switch x := shapeOf(n).(type) {
	case procedure:
		in.locals = in.locals.inner()
		return visit.declare(x.params, in) && visit.walk(x.body, in)
	case let:
		return visit.walkAll(x.values, in) && visit.declare(x.names, in)
	case vector:
		if !visit.walk(x.size, in.as(size)) {
			return false
		}
		in.locals.add(x.name)
	case counting:
		return visit.count(x, in)
	case loop:
		return visit.walkAll(x.before, in) && visit.walk(x.command, in.inCommand()) && visit.walkAll(x.behind, in)
	case choice:
		return visit.walk(x.value, in) && visit.walk(x.block, in.ofSwitch())
	case mark:
		return visit.walkAll(x.constant, in.as(constant)) && visit.walk(x.command, in.asItem(p.items))
	case block:
		return visit.walkItems(x.items, in, p.role == switchBlock)
	case valof:
		return visit.walk(x.block, in.ofValof())
	case assignment:
		return visit.walkAll(x.lefts, in.as(left)) && visit.walkAll(x.rights, in)
	case address:
		return visit.walk(x.of, in.as(addressed))
	case table:
		return visit.walkAll(x.constants, in.as(constant))
	case selection:
		return visit.walk(x.selector, in.as(selecting)) && visit.walk(x.of, in)
	case plain:
		return visit.walkAll(x.parts, in)
	}
	return true
}

func (visit visitor) walkAll(l []api.Node, p place) bool {
	for _, n := range l {
		if !visit.walk(n, p) {
			return false
		}
	}
	return true
}

// declare goes through names that become known.
func (visit visitor) declare(names []api.Node, p place) bool {
	p = p.as(declaring)
	for i, n := range names {
		p.before = names[:i]
		if !visit(n, p) {
			return false
		}
		p.locals.add(n.S)
	}
	return true
}

// count goes through a CFor, whose name is known in the command alone.
func (visit visitor) count(x counting, p place) bool {
	if !visit.walkAll(x.bounds, p) || !visit.walkAll(x.step, p.as(step)) {
		return false
	}
	p.locals = p.locals.inner(x.name)
	return visit.walk(x.command, p.inCommand())
}

// walkItems goes through the items of a block. Its labels are known from the beginning, its locals as they come.
func (visit visitor) walkItems(l []api.Node, p place, ofSwitch bool) bool {
	p.locals = p.locals.inner()
	p.labels = p.labels.inner(labelsOf(l)...)
	p = p.asItem(&items{ofSwitch: ofSwitch, labels: map[string]bool{}, cases: map[int]bool{}})
	return visit.walkAll(l, p)
}

// labelsOf returns the labels among items. What is behind a label, case or default is an item, too.
func labelsOf(l []api.Node) []string {
	var labels []string
	for _, n := range l {
		for {
			m, ok := shapeOf(n).(mark)
			if !ok {
				break
			}
			if n.Op == api.CLabel {
				labels = append(labels, n.S)
			}
			n = m.command
		}
	}
	return labels
}
