package scope_test

import (
	"math/rand"
	"slices"

	"bluebell/api"
	"bluebell/scope"
)

// maker makes sections that mostly pass, always the same ones: names are chosen from those that are known, commands stand where they may. Once in a while it slips, and does not care.
type maker struct {
	*rand.Rand
	rate int // one of so many choices is a slip; 0: none
	tops []scope.Top
	// In a procedure:
	locals    []string
	labels    []string // that may be looked for
	isLoop    bool
	isSwitch  bool
	isValof   bool
	manifests []string // ahead
}

func newMaker(seed int64, rate int) *maker {
	return &maker{Rand: rand.New(rand.NewSource(seed)), rate: rate}
}

func (m *maker) slips() bool {
	return m.rate > 0 && m.Intn(m.rate) == 0
}

// anyName has few names, so that many are there twice, and hide each other.
func (m *maker) anyName() string {
	return []string{"a", "b", "c", "d", "e", "f", "g", "h", "i", "start", "wrch", "zz"}[m.Intn(12)]
}

func (m *maker) oneOf(l []string) string {
	if len(l) == 0 || m.slips() {
		return m.anyName()
	}
	return l[m.Intn(len(l))]
}

func (m *maker) namesOf(kinds ...int) []string {
	var l []string
	for _, t := range m.tops {
		if slices.Contains(kinds, t.Kind) && !slices.Contains(m.locals, t.Name) {
			l = append(l, t.Name)
		}
	}
	return l
}

// used returns a name that means something.
func (m *maker) used() api.Node {
	l := append(m.namesOf(scope.Manifest, scope.Static, scope.Global, scope.Proc), m.locals...)
	return name(m.oneOf(append(l, "wrch")))
}

// variable returns a name of a cell, or what is like one.
func (m *maker) variable() api.Node {
	l := append(m.namesOf(scope.Static), m.locals...)
	for _, g := range m.namesOf(scope.Global) {
		if !slices.Contains(m.namesOf(scope.Proc), g) {
			l = append(l, g)
		}
	}
	if len(l) == 0 && !m.slips() {
		return node(api.ELoad, num(1))
	}
	return name(m.oneOf(l))
}

func (m *maker) constant(levels int) api.Node {
	if m.slips() {
		return m.expr(levels)
	}
	choice := m.Intn(8)
	if levels < 2 {
		choice = m.Intn(3)
	}
	switch choice {
	case 0:
		return []api.Node{node(api.ETrue), node(api.EFalse), num(1), num(4)}[m.Intn(4)]
	case 1:
		var l []string
		for _, name := range m.manifests {
			if !slices.Contains(m.locals, name) {
				l = append(l, name)
			}
		}
		if len(l) > 0 {
			return name(m.oneOf(l))
		}
	case 3:
		op := api.Mul + m.Intn(api.Ge-api.Mul+1)
		if op == api.Div || op == api.Rem {
			divisor := 3
			if m.rate > 0 && m.Intn(8) == 0 {
				divisor = 0
			}
			return api.Node{Op: api.EBin, N: op, L: []api.Node{m.constant(levels - 1), num(divisor)}}
		}
		return api.Node{Op: api.EBin, N: op, L: []api.Node{m.constant(levels - 1), m.constant(levels - 1)}}
	case 4:
		return api.Node{Op: api.EBin, N: api.Add + m.Intn(2), L: []api.Node{m.constant(levels - 1), m.constant(levels - 1)}}
	case 5:
		return api.Node{Op: api.EUn, N: api.Neg + m.Intn(2), L: []api.Node{m.constant(levels - 1)}}
	case 6:
		if m.Intn(2) == 0 {
			return node(api.ECond, node(api.ETrue), m.constant(levels-1), m.expr(levels-1))
		}
		return node(api.ECond, node(api.EFalse), m.expr(levels-1), m.constant(levels-1))
	case 7:
		return m.slct(levels)
	}
	return num(m.Intn(10) - 1)
}

func (m *maker) slct(levels int) api.Node {
	n := node(api.ESlct, num(m.Intn(10)), num(m.Intn(8)), num(m.Intn(256)))
	if m.slips() {
		n.L[m.Intn(3)] = m.constant(levels - 1)
	}
	return n
}

// within returns a constant in a range.
func (m *maker) within(least, most int) api.Node {
	n := num(least + m.Intn(most-least+1))
	switch {
	case m.slips():
		return m.constant(3)
	case m.Intn(3) == 0:
		return node(api.ECond, node(api.ETrue), n, num(0))
	case m.Intn(3) == 0:
		return api.Node{Op: api.EBin, N: api.Add, L: []api.Node{n, num(0)}}
	}
	return n
}

func (m *maker) exprs(levels, count int) []api.Node {
	var l []api.Node
	for range count {
		l = append(l, m.expr(levels))
	}
	return l
}

func (m *maker) expr(levels int) api.Node {
	choice := m.Intn(15)
	if levels < 2 {
		choice = m.Intn(6)
	}
	switch choice {
	case 0:
		return num(m.Intn(100))
	case 1:
		return []api.Node{node(api.ETrue), node(api.EFalse), node(api.EAny), {Op: api.EStr, S: "x"}}[m.Intn(4)]
	case 6:
		op := api.Mul + m.Intn(api.Ge-api.Mul+1)
		return api.Node{Op: api.EBin, N: op, L: m.exprs(levels-1, 2)}
	case 7:
		return node([]int{api.ESub, api.EByte}[m.Intn(2)], m.exprs(levels-1, 2)...)
	case 8:
		return []api.Node{node(api.ELoad, m.expr(levels-1)), {Op: api.EUn, N: api.Neg, L: m.exprs(levels-1, 1)}}[m.Intn(2)]
	case 9:
		return node(api.EAddr, m.addressed(levels-1))
	case 10:
		return node(api.ECond, m.exprs(levels-1, 3)...)
	case 11:
		return m.call(levels)
	case 12:
		return node(api.ETable, m.constant(levels-1), m.constant(levels-1))
	case 13:
		return []api.Node{node(api.ESel, m.within(0, 16), m.expr(levels-1)), m.slct(levels)}[m.Intn(2)]
	case 14:
		return m.valof(levels)
	}
	return m.used()
}

func (m *maker) addressed(levels int) api.Node {
	switch {
	case m.slips():
		return m.expr(levels)
	case m.Intn(2) == 0:
		return m.variable()
	}
	return node(api.ESub, m.exprs(levels-1, 2)...)
}

func (m *maker) left(levels int) api.Node {
	switch choice := m.Intn(8); {
	case m.slips():
		return m.expr(levels)
	case choice == 0:
		return node(api.EByte, m.exprs(levels-1, 2)...)
	case choice == 1:
		return node(api.ESel, m.within(0, 16), m.expr(levels-1))
	case choice == 2:
		return node(api.ELoad, m.expr(levels-1))
	}
	return m.addressed(levels)
}

func (m *maker) call(levels int) api.Node {
	f := name(m.oneOf(append(m.namesOf(scope.Proc), "wrch")))
	if m.Intn(6) == 0 {
		f = m.expr(levels - 1)
	}
	return node(api.ECall, append([]api.Node{f}, m.exprs(levels-1, m.Intn(3))...)...)
}

// apart runs what has a state of its own, and puts back what was before.
func (m *maker) apart(change func(), make func() api.Node) api.Node {
	before := *m
	change()
	n := make()
	m.locals, m.labels, m.isLoop, m.isSwitch, m.isValof = before.locals, before.labels, before.isLoop, before.isSwitch, before.isValof
	return n
}

func (m *maker) valof(levels int) api.Node {
	return m.apart(func() { m.labels, m.isLoop, m.isSwitch, m.isValof = nil, false, false, true }, func() api.Node { return node(api.EValof, m.block(levels-1, false)) })
}

// block makes a block of some items; the labels of a block are told ahead, and all of them are put somewhere.
func (m *maker) block(levels int, ofSwitch bool) api.Node {
	return m.apart(func() {}, func() api.Node {
		var labels []string
		for _, l := range []string{"a", "k", "l"} {
			if levels > 2 && m.Intn(4) == 0 {
				labels = append(labels, l)
			}
		}
		m.labels = append(slices.Clone(m.labels), labels...)
		m.locals = slices.Clone(m.locals)
		n := node(api.CBlock)
		hasDefault := false
		for i := range len(labels) + 1 + m.Intn(4) {
			if i < len(labels) {
				n.L = append(n.L, api.Node{Op: api.CLabel, S: labels[i], L: []api.Node{m.command(levels - 2)}})
			} else if ofSwitch && m.Intn(2) == 0 {
				n.L = append(n.L, m.cases(levels-1, i, &hasDefault))
			} else {
				n.L = append(n.L, m.item(levels-1))
			}
			if m.slips() {
				n.L = append(n.L, api.Node{Op: api.CLabel, S: m.anyName(), L: []api.Node{node(api.CNull)}})
			}
		}
		return n
	})
}

func (m *maker) cases(levels, i int, hasDefault *bool) api.Node {
	if m.Intn(3) == 0 && (!*hasDefault || m.slips()) {
		*hasDefault = true
		return node(api.CDefault, m.command(levels-1))
	}
	value := m.within(10*i, 10*i+9)
	if m.slips() {
		value = num(10)
	}
	return node(api.CCase, value, m.command(levels-1))
}

func (m *maker) item(levels int) api.Node {
	switch m.Intn(5) {
	case 0:
		n := api.Node{Op: api.CVec, S: m.anyName(), L: []api.Node{m.within(0, 20)}}
		m.locals = append(m.locals, n.S)
		return n
	case 1:
		n := api.Node{Op: api.CLet}
		var names []string
		for range 1 + m.Intn(3) {
			s := m.anyName()
			if !slices.Contains(names, s) || m.slips() {
				names = append(names, s)
			}
		}
		n.N = len(names)
		n.L = append(nodesOf(names), m.exprs(levels-1, n.N)...)
		m.locals = append(m.locals, names...)
		return n
	}
	return m.command(levels)
}

func nodesOf(names []string) []api.Node {
	var l []api.Node
	for _, s := range names {
		l = append(l, name(s))
	}
	return l
}

func (m *maker) loop(make func() api.Node) api.Node {
	return m.apart(func() { m.isLoop = true }, make)
}

func (m *maker) command(levels int) api.Node {
	if levels < 3 {
		return m.jump()
	}
	below := levels - 1
	switch m.Intn(12) {
	case 0:
		return node([]int{api.CIf, api.CUnless}[m.Intn(2)], m.expr(below), m.command(below))
	case 1:
		return node(api.CTest, m.expr(below), m.command(below), m.command(below))
	case 2:
		condition := m.expr(below)
		return node([]int{api.CWhile, api.CUntil}[m.Intn(2)], condition, m.loop(func() api.Node { return m.command(below) }))
	case 3:
		return node(api.CRepeat, m.loop(func() api.Node { return m.block(below, false) }))
	case 4:
		return node([]int{api.CRepWh, api.CRepUn}[m.Intn(2)], m.loop(func() api.Node { return m.block(below, false) }), m.expr(below))
	case 5:
		return m.counting(below)
	case 6:
		value := m.expr(below)
		return node(api.CSwitch, value, m.apart(func() { m.isSwitch = true }, func() api.Node { return m.block(below, true) }))
	case 7:
		return m.block(levels, m.slips())
	case 8:
		n := api.Node{Op: api.CAssign, N: 1 + m.Intn(2)}
		for range n.N {
			n.L = append(n.L, m.left(below))
		}
		n.L = append(n.L, m.exprs(below, n.N)...)
		return n
	case 9:
		if m.isValof {
			return node(api.CResult, m.expr(below))
		}
	case 10:
		return m.jump()
	}
	return node(api.CCall, m.call(below))
}

func (m *maker) counting(levels int) api.Node {
	n := api.Node{Op: api.CFor, S: m.anyName(), N: m.Intn(2), L: m.exprs(levels, 2)}
	if n.N == 1 {
		n.L = append(n.L, m.within(1, 5))
	}
	n.L = append(n.L, m.apart(func() { m.isLoop, m.locals = true, append(slices.Clone(m.locals), n.S) }, func() api.Node { return m.command(levels) }))
	return n
}

// jump returns a command of one level.
func (m *maker) jump() api.Node {
	l := []api.Node{node(api.CNull), node(api.CFinish)}
	if len(m.labels) > 0 || m.slips() {
		l = append(l, api.Node{Op: api.CGoto, S: m.oneOf(m.labels)})
	}
	if m.isLoop || m.slips() {
		l = append(l, node(api.CBreak), node(api.CLoop))
	}
	if m.isSwitch || m.slips() {
		l = append(l, node(api.CEndcase))
	}
	if !m.isValof || m.slips() {
		l = append(l, node(api.CReturn))
	}
	if m.slips() {
		l = append(l, node(api.CDefault, node(api.CNull)))
	}
	return l[m.Intn(len(l))]
}

func (m *maker) proc(top scope.Top) api.Node {
	n := api.Node{Op: api.DProc, S: top.Name, N: m.Intn(2)}
	var params []string
	for range m.Intn(4) {
		s := m.anyName()
		if !slices.Contains(params, s) || m.slips() {
			params = append(params, s)
		}
	}
	n.L = nodesOf(params)
	m.locals = params
	if n.N == 0 {
		n.L = append(n.L, m.expr(6))
	} else {
		n.L = append(n.L, m.block(7, false))
	}
	m.locals = nil
	return n
}

// section makes a section of declarations with one name each.
func (m *maker) section() api.Section {
	m.tops = nil
	var s api.Section
	for i := range 3 + m.Intn(6) {
		top := scope.Top{Name: []string{"a", "b", "c", "d", "e", "f", "g", "h", "i"}[i], Kind: scope.Manifest + m.Intn(4)}
		if m.slips() {
			top.Name = m.anyName()
		}
		m.tops = append(m.tops, top)
		if top.Kind == scope.Global && m.Intn(2) == 0 {
			top.Kind = scope.Proc
			m.tops = append(m.tops, top)
		}
	}
	m.Shuffle(len(m.tops), func(i, j int) { m.tops[i], m.tops[j] = m.tops[j], m.tops[i] })
	m.manifests = nil
	for i, top := range m.tops {
		if top.Kind == scope.Proc {
			s.Decls = append(s.Decls, m.proc(top))
			continue
		}
		s.Decls = append(s.Decls, m.decl(i, top))
		if top.Kind == scope.Manifest {
			m.manifests = append(m.manifests, top.Name)
		}
	}
	return s
}

func (m *maker) decl(i int, top scope.Top) api.Node {
	value := m.constant(4)
	if top.Kind == scope.Global {
		value = m.within(20*i+12, 20*i+20)
		if i > 8 {
			value = num(188 + i%11)
		}
	}
	ops := map[int]int{scope.Manifest: api.DManifest, scope.Static: api.DStatic, scope.Global: api.DGlobal}
	return node(ops[top.Kind], api.Node{Op: api.DConst, S: top.Name, L: []api.Node{value}})
}
