package mean_test

import (
	"slices"

	"bluebell/api"
	"bluebell/scope"
)

// The model's calls and commands.

func (m *model) call(f modelValue, args []modelValue) modelValue {
	m.must(f.kind == aProcedure)
	i := slices.IndexFunc(m.decls, func(d api.Node) bool { return d.Op == api.DProc && d.S == f.proc })
	if i >= 0 {
		m.must(len(args) == len(m.decls[i].L)-1)
		return m.callOwn(f.proc, args)
	}
	params, ok := map[string]int{"rdch": 0, "wrch": 1, "stop": 1, "getvec": 1, "freevec": 1, "muldiv": 3}[f.proc]
	m.must(ok && params == len(args))
	v := m.callGiven(f.proc, args)
	m.names = append(m.names, f.proc)
	return v
}

func (m *model) callGiven(name string, args []modelValue) modelValue {
	var n [3]int
	for i, arg := range args {
		isHeap := name == "freevec" && arg.kind == anAddress && arg.of.isHeap && !arg.of.hasEnded && arg.n == 0
		m.must(arg.kind == aNumber && (name != "freevec" || arg.n == 0) || isHeap)
		n[i] = arg.n
		if isHeap {
			arg.of.end()
		}
	}
	switch name {
	case "rdch":
		if m.input == "" {
			return m.number(-1)
		}
		c := m.input[0]
		m.input = m.input[1:]
		return m.number(int(c))
	case "wrch":
		if len(m.out) >= api.MaxOutput {
			panic(modelEnd{api.Fault, 0, api.ErrLimit})
		}
		m.out = append(m.out, byte(n[0]&255))
	case "stop":
		panic(modelEnd{api.Stopped, n[0], api.OK})
	case "getvec":
		if n[0] < 0 || n[0]+1 > m.heap {
			m.narrow = false
			return m.number(0)
		}
		m.heap -= n[0] + 1
		return (&modelObject{cells: make([]modelCell, n[0]+1), isHeap: true}).first()
	case "muldiv":
		if n[2] == 0 {
			panic(modelEnd{api.Fault, 0, api.ErrZero})
		}
		product := n[0] * n[1]
		m.narrow = m.narrow && fits(product) && fits(product/n[2])
		return m.number(product / n[2])
	}
	return m.number(0)
}

// wordsOf returns the words of a call that stand in a tree, and its levels.
func (m *model) wordsOf(n api.Node) (words, levels int) {
	switch n.Op {
	case api.CLet:
		words = n.N
	case api.CVec:
		size, _ := scope.Eval(n.L[0], m.tops)
		words = size + 2
	case api.CFor:
		words = 2
	}
	for _, part := range n.L {
		w, l := m.wordsOf(part)
		words, levels = words+w, max(levels, l)
	}
	return words, levels + 1
}

func (m *model) callOwn(name string, args []modelValue) modelValue {
	i := slices.IndexFunc(m.decls, func(d api.Node) bool { return d.Op == api.DProc && d.S == name })
	d := &m.decls[i]
	words, levels := m.wordsOf(*d)
	m.words = append(m.words, 2+len(args)+words+10*levels)
	all := 0
	for _, w := range m.words {
		all += w
	}
	if len(m.words) > api.MaxCalls || all > api.MaxFrame {
		panic(modelEnd{api.Fault, 0, api.ErrRoom})
	}
	m.names = append(m.names, name)
	at := &surroundings{names: map[string]*modelObject{}}
	for i, arg := range args {
		at.names[d.L[i].S] = &modelObject{cells: []modelCell{{value: arg}}}
	}
	gives := m.number(0)
	if d.N == 0 {
		gives = m.value(&d.L[len(args)], at)
	} else {
		m.command(&d.L[len(args)], at)
	}
	for _, o := range at.names {
		o.end()
	}
	m.words = m.words[:len(m.words)-1]
	return gives
}

// command runs a command or an item.
func (m *model) command(n *api.Node, at *surroundings) way {
	m.step()
	switch n.Op {
	case api.CAssign:
		for i := range n.N {
			m.assign(&n.L[i], &n.L[n.N+i], at)
		}
	case api.CCall:
		m.value(&n.L[0], at)
	case api.CIf, api.CUnless, api.CTest:
		return m.chosen(n, at)
	case api.CWhile, api.CUntil, api.CRepeat, api.CRepWh, api.CRepUn:
		return m.loop(n, at)
	case api.CFor:
		return m.count(n, at)
	case api.CSwitch:
		return m.choose(n, at)
	case api.CBreak:
		return way{how: "break"}
	case api.CLoop:
		return way{how: "loop"}
	case api.CEndcase:
		return way{how: "endcase"}
	case api.CReturn:
		return way{how: "return"}
	case api.CResult:
		m.valofGave = m.value(&n.L[0], at)
		return way{how: "resultis"}
	case api.CGoto:
		return way{"goto", n.S}
	case api.CLabel, api.CCase, api.CDefault:
		return m.command(&n.L[len(n.L)-1], at)
	case api.CFinish:
		panic(modelEnd{end: api.Stopped})
	case api.CBlock:
		return m.block(n, at, 0, nil)
	case api.CLet:
		m.let(n, at)
	case api.CVec:
		size, _ := scope.Eval(n.L[0], m.tops)
		v := &modelObject{cells: make([]modelCell, size+1)}
		at.lets[[2]int{at.item, 0}] = &modelObject{cells: []modelCell{{value: v.first()}}, vector: v}
	}
	return way{}
}

func (m *model) let(n *api.Node, at *surroundings) {
	var values []modelValue
	for i := range n.N {
		values = append(values, m.value(&n.L[n.N+i], at))
	}
	for i, v := range values {
		at.lets[[2]int{at.item, i}] = &modelObject{cells: []modelCell{{value: v}}}
	}
}

func (m *model) chosen(n *api.Node, at *surroundings) way {
	holds := m.condition(&n.L[0], at)
	switch {
	case holds && n.Op != api.CUnless:
		return m.command(&n.L[1], at)
	case !holds && n.Op == api.CUnless:
		return m.command(&n.L[1], at)
	case !holds && n.Op == api.CTest:
		return m.command(&n.L[2], at)
	}
	return way{}
}

func (m *model) loop(n *api.Node, at *surroundings) way {
	for {
		if n.Op == api.CWhile && !m.condition(&n.L[0], at) || n.Op == api.CUntil && m.condition(&n.L[0], at) {
			return way{}
		}
		body := &n.L[0]
		if n.Op == api.CWhile || n.Op == api.CUntil {
			body = &n.L[1]
		}
		if w := m.command(body, at); w.how == "break" {
			return way{}
		} else if w.how != "" && w.how != "loop" {
			return w
		}
		if n.Op == api.CRepWh && !m.condition(&n.L[1], at) || n.Op == api.CRepUn && m.condition(&n.L[1], at) {
			return way{}
		}
	}
}

func (m *model) count(n *api.Node, at *surroundings) way {
	by := 1
	if n.N == 1 {
		by, _ = scope.Eval(n.L[2], m.tops)
		m.narrow = m.narrow && fits(by)
	}
	from := m.value(&n.L[0], at)
	to := m.value(&n.L[1], at)
	i := &modelObject{cells: []modelCell{{value: from}}}
	defer i.end()
	inside := &surroundings{up: at, names: map[string]*modelObject{n.S: i}}
	for {
		v := m.word(i.first()).value
		m.must(v.kind == aNumber && to.kind == aNumber)
		if by > 0 && v.n > to.n || by < 0 && v.n < to.n {
			return way{}
		}
		if w := m.command(&n.L[len(n.L)-1], inside); w.how == "break" {
			return way{}
		} else if w.how != "" && w.how != "loop" {
			return w
		}
		c := m.word(i.first())
		m.must(c.value.kind == aNumber)
		c.value = m.apply(api.Add, c.value, m.number(by))
	}
}

// marks calls a function with each label, case and default among the items of a block, until it is the one.
func marks(block *api.Node, isIt func(n *api.Node) bool) (int, *api.Node) {
	for i := range block.L {
		for n := &block.L[i]; n.Op == api.CLabel || n.Op == api.CCase || n.Op == api.CDefault; n = &n.L[len(n.L)-1] {
			if isIt(n) {
				return i, n
			}
		}
	}
	return 0, nil
}

func (m *model) choose(n *api.Node, at *surroundings) way {
	block := &n.L[1]
	marks(block, func(n *api.Node) bool {
		if n.Op == api.CCase {
			m.constant(n.L[0], true)
		}
		return false
	})
	v := m.value(&n.L[0], at)
	m.must(v.kind == aNumber)
	i, item := marks(block, func(n *api.Node) bool { return n.Op == api.CCase && m.constant(n.L[0], false) == v })
	if item == nil {
		i, item = marks(block, func(n *api.Node) bool { return n.Op == api.CDefault })
	}
	if item == nil {
		return way{}
	}
	m.step()
	w := m.block(block, at, i, item)
	if w.how == "endcase" {
		return way{}
	}
	return w
}

// block runs a block from an item on, of which only a part may be run.
func (m *model) block(n *api.Node, around *surroundings, from int, part *api.Node) way {
	at := &surroundings{up: around, block: n, lets: map[[2]int]*modelObject{}}
	for {
		w := m.items(at, from, part)
		var label *api.Node
		if w.how == "goto" {
			from, label = marks(n, func(n *api.Node) bool { return n.Op == api.CLabel && n.S == w.label })
		}
		if label == nil {
			from = -1
		}
		for key, o := range at.lets {
			if key[0] > from {
				o.end()
				delete(at.lets, key)
			}
		}
		if label == nil {
			return w
		}
		part = label
	}
}

func (m *model) items(at *surroundings, from int, part *api.Node) way {
	for at.item = from; at.item < len(at.block.L); at.item++ {
		n := &at.block.L[at.item]
		if part != nil {
			n, part = part, nil
		}
		if w := m.command(n, at); w.how != "" {
			return w
		}
	}
	return way{}
}
