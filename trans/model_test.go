package trans_test

import (
	"slices"
	"strconv"
	"strings"

	"bluebell/api"
	"bluebell/scope"
)

// A model of the translation, which reads what the chapter writes. A template is a row of steps with semicolons between them:
//
//	1 2 3 last    the code of a part
//	new l m       new labels
//	lab l [d]     OLabel l and OStack d, of the depth then without a d
//	CLoop l       in what follows, a CLoop leads to l; likewise others
//	name          in what follows, the node's name is a local of the beginning's depth
//	OBin Add      an instruction; its numbers may be labels, b, b+1, b+2 (b is the depth of the beginning), N (of the node) or names of operators
//
// A step with ? is left out if the number before it is 0.
func template(n api.Node) string {
	switch n.Op {
	case api.EAny:
		return "ONum 0"
	case api.ESub:
		return "1 ; 2 ; OBin Add ; OLoad"
	case api.EByte:
		return "1 ; 2 ; OGetB"
	case api.ELoad:
		return "1 ; OLoad"
	case api.EBin:
		return "1 ; 2 ; OBin N"
	case api.EUn:
		return "1 ; OUn N"
	case api.ECond:
		return "1 ; new l m ; OFalse l ; 2 ; OJump m ; lab l b ; 3 ; OLabel m ; OStack b+1"
	case api.EValof:
		return "new l ; CResult l ; 1 ; ONum 0 ; OResult l ; OLabel l ; OTake b"
	case api.CCall:
		return "1 ; OStack b"
	case api.CIf:
		return "1 ; new l ; OFalse l ; 2 ; lab l"
	case api.CUnless:
		return "1 ; new l ; OTrue l ; 2 ; lab l"
	case api.CTest:
		return "1 ; new l m ; OFalse l ; 2 ; OJump m ; lab l ; 3 ; lab m"
	case api.CWhile:
		return "new l m ; lab l ; 1 ; OFalse m ; CLoop l ; CBreak m ; 2 ; OJump l ; lab m"
	case api.CUntil:
		return "new l m ; lab l ; 1 ; OTrue m ; CLoop l ; CBreak m ; 2 ; OJump l ; lab m"
	case api.CRepeat:
		return "new l m ; lab l ; CLoop l ; CBreak m ; 1 ; OJump l ; lab m"
	case api.CRepWh:
		return "new l m n ; lab l ; CLoop n ; CBreak m ; 1 ; lab n ; 2 ; OTrue l ; lab m"
	case api.CRepUn:
		return "new l m n ; lab l ; CLoop n ; CBreak m ; 1 ; lab n ; 2 ; OFalse l ; lab m"
	case api.CFor:
		return "1 ; 2 ; new l m n k ; OJump n ; lab l ; name ; CLoop m ; CBreak k ; last ; lab m ; OLocal b ; ONum by ; OBin Add ; OPutL b ; lab n ; OLocal b ; OLocal b+1 ; OBin LeGe ; OTrue l ; lab k b"
	case api.CReturn:
		return "OBack"
	case api.CResult:
		return "1 ; OResult CResult"
	case api.CBreak:
		return "OJump CBreak"
	case api.CLoop:
		return "OJump CLoop"
	case api.CEndcase:
		return "OJump CEndcase"
	case api.CNull:
		return ""
	case api.CFinish:
		return "OStack b+2 ; ONum 0 ; OGlobal 4 ; OCall b ; OStack b"
	}
	panic("a node without a template")
}

const (
	selection     = "2 ; ?offset ONum offset ; ?offset OBin Add ; OLoad ; ?shift ONum shift ; ?shift OBin Shr ; ?size ONum mask ; ?size OBin And"
	selectionLeft = "2 ; ?offset ONum offset ; ?offset OBin Add ; right ; ?size ONum mask ; ?size OBin And ; ?shift ONum shift ; ?shift OBin Shl ; OLocal b ; OLoad ; ONum others ; OBin And ; OBin Or ; OLocal b ; OStore ; OStack b"
)

// means is a name with a number, and the one that is around it.
type means struct {
	name   string
	number int
	up     *means
}

func (l *means) of(name string) (int, bool) {
	for ; l != nil; l = l.up {
		if l.name == name {
			return l.number, true
		}
	}
	return 0, false
}

type model struct {
	api.Code
	tops   []scope.Top
	depth  int
	depths []int // before each instruction
	locals *means
	leads  *means // labels with a colon behind them, cases, and what commands lead to
}

// modelOf translates a section that passes, and tells the depth before each instruction.
func modelOf(s api.Section) (api.Code, []int) {
	m := model{Code: api.Code{Name: s.Name}}
	m.tops, _ = scope.Tops(s)
	for _, d := range s.Decls {
		for _, c := range d.L {
			if d.Op == api.DStatic {
				value, _ := scope.Eval(c.L[0], m.tops)
				m.Data = append(m.Data, api.Data{Words: []int{value}})
			}
		}
	}
	for _, d := range s.Decls {
		if d.Op == api.DProc {
			m.proc(d)
		}
	}
	return m.Code, m.depths
}

func (m *model) proc(d api.Node) {
	m.Procs++
	m.locals, m.leads, m.depth = nil, nil, 0
	params := len(d.L) - 1
	m.put("OEnter", m.Procs, params)
	m.depth = 2 + params
	for i := range params {
		m.locals = &means{d.L[i].S, 2 + i, m.locals}
	}
	m.node(d.L[params])
	m.put([]string{"OReturn", "OBack"}[d.N])
	for _, t := range m.tops {
		if t.Kind == scope.Proc && t.N == m.Procs && t.Global != 0 {
			m.Globals = append(m.Globals, api.Entry{Global: t.Global, Proc: t.N})
		}
	}
}

// put puts an instruction by its name with the O of the chapter. The depth is told by the table of layer 6.
func (m *model) put(name string, numbers ...int) {
	name = strings.ToLower(strings.TrimPrefix(name, "O"))
	o := api.Op{Op: 1 + slices.Index(strings.Fields(opNames), name)}
	if o.Op == 0 {
		panic(name)
	}
	numbers = append(numbers, 0, 0)
	o.N, o.M = numbers[0], numbers[1]
	m.Ops = append(m.Ops, o)
	m.depths = append(m.depths, m.depth)
	is := func(names string) bool { return slices.Contains(strings.Fields(names), name) }
	switch {
	case is("num local addrl global addrg static addrs proc"):
		m.depth++
	case is("putl putg puts bin getb true false switch return result"):
		m.depth--
	case is("store"):
		m.depth -= 2
	case is("putb"):
		m.depth -= 3
	case is("stack"):
		m.depth = o.N
	case is("call take"):
		m.depth = o.N + 1
	}
}

func (m *model) label() int {
	m.Labels++
	return m.Labels
}

// node puts the code of a node. What is known in it is forgotten behind it.
func (m *model) node(n api.Node) {
	locals, leads := m.locals, m.leads
	switch n.Op {
	case api.ENum, api.ETrue, api.EFalse, api.ESlct:
		m.put("ONum", m.constant(n))
	case api.EName:
		m.name(n.S)
	case api.EStr:
		m.Data = append(m.Data, api.Data{Text: n.S, IsText: true})
		m.put("OAddrS", len(m.Data)-1)
	case api.ETable:
		var l []int
		for _, part := range n.L {
			l = append(l, m.constant(part))
		}
		m.Data = append(m.Data, api.Data{Words: l})
		m.put("OAddrS", len(m.Data)-1)
	case api.ECall:
		b := m.depth
		m.put("OStack", b+2)
		for _, part := range append(slices.Clone(n.L[1:]), n.L[0]) {
			m.node(part)
		}
		m.put("OCall", b)
	case api.EAddr:
		m.address(n.L[0])
	case api.ESel:
		m.run(n, selection, nil)
	case api.CAssign:
		for i := range n.N {
			m.assign(n.L[i], n.L[n.N+i])
		}
	case api.CSwitch:
		m.choose(n)
	case api.CCase, api.CDefault, api.CLabel:
		label, _ := m.leads.of(key(n, m.constant))
		m.put("OLabel", label)
		m.put("OStack", m.depth)
		m.node(n.L[len(n.L)-1])
	case api.CGoto:
		label, _ := m.leads.of(n.S + ":")
		m.put("OJump", label)
	case api.CBlock:
		m.block(n)
	default:
		m.run(n, template(n), nil)
	}
	m.locals, m.leads = locals, leads
}

// key is by which a label, case or default is known.
func key(n api.Node, constant func(api.Node) int) string {
	switch n.Op {
	case api.CCase:
		return "case " + strconv.Itoa(constant(n.L[0]))
	case api.CDefault:
		return "default"
	}
	return n.S + ":"
}

func (m *model) constant(n api.Node) int {
	value, err := scope.Eval(n, m.tops)
	if err != api.OK {
		panic("no constant")
	}
	return value
}

// global returns what a name means that is no local, by its kind and number.
func (m *model) global(name string) (string, int) {
	top, ok := scope.Find(m.tops, name)
	switch {
	case !ok:
		panic("no name")
	case top.Kind == scope.Manifest:
		return "Num", top.N
	case top.Kind == scope.Static:
		return "Static", top.N
	case top.Kind == scope.Global:
		return "Global", top.N
	case top.Global > 0:
		return "Global", top.Global
	}
	return "Proc", top.N
}

func (m *model) name(name string) {
	if i, ok := m.locals.of(name); ok {
		m.put("OLocal", i)
		return
	}
	kind, number := m.global(name)
	m.put("O"+kind, number)
}

// cell puts an OAddr or OPut of a name.
func (m *model) cell(what, name string) {
	if i, ok := m.locals.of(name); ok {
		m.put(what+"L", i)
		return
	}
	kind, number := m.global(name)
	m.put(what+kind[:1], number)
}

func (m *model) address(n api.Node) {
	switch n.Op {
	case api.EName:
		m.cell("OAddr", n.S)
	case api.ESub:
		m.run(n, "1 ; 2 ; OBin Add", nil)
	case api.ELoad:
		m.run(n, "1", nil)
	}
}

func (m *model) assign(left, right api.Node) {
	switch left.Op {
	case api.EName:
		m.node(right)
		m.cell("OPut", left.S)
	case api.ESub:
		m.run(left, "right ; 1 ; 2 ; OBin Add ; OStore", &right)
	case api.ELoad:
		m.run(left, "right ; 1 ; OStore", &right)
	case api.EByte:
		m.run(left, "right ; 1 ; 2 ; OPutB", &right)
	case api.ESel:
		m.run(left, selectionLeft, &right)
	}
}

// itemsOf returns what counts as an item of a block.
func itemsOf(block api.Node) []api.Node {
	var l []api.Node
	for _, n := range block.L {
		l = append(l, n)
		if n.Op == api.CLabel || n.Op == api.CCase || n.Op == api.CDefault {
			l = append(l, itemsOf(api.Node{L: n.L[len(n.L)-1:]})...)
		}
	}
	return l
}

func (m *model) know(n api.Node) {
	m.leads = &means{key(n, m.constant), m.label(), m.leads}
}

func (m *model) choose(n api.Node) {
	m.node(n.L[0])
	var cases, defaults []api.Node
	for _, item := range itemsOf(n.L[1]) {
		switch item.Op {
		case api.CCase:
			cases = append(cases, item)
		case api.CDefault:
			defaults = append(defaults, item)
		}
	}
	for _, item := range append(slices.Clone(cases), defaults...) {
		m.know(item)
	}
	k := m.label()
	m.leads = &means{"CEndcase", k, m.leads}
	otherwise := k
	if len(defaults) > 0 {
		otherwise, _ = m.leads.of("default")
	}
	m.put("OSwitch", otherwise, len(cases))
	for _, item := range cases {
		label, _ := m.leads.of(key(item, m.constant))
		m.put("OCase", m.constant(item.L[0]), label)
	}
	m.node(n.L[1])
	m.put("OLabel", k)
	m.put("OStack", m.depth)
}

func (m *model) block(block api.Node) {
	b := m.depth
	for _, item := range itemsOf(block) {
		if item.Op == api.CLabel {
			m.know(item)
		}
	}
	for _, n := range block.L {
		d := m.depth
		switch n.Op {
		case api.CLet:
			for _, part := range n.L[n.N:] {
				m.node(part)
			}
			for i, part := range n.L[:n.N] {
				m.locals = &means{part.S, d + i, m.locals}
			}
		case api.CVec:
			m.put("OAddrL", d+1)
			m.put("OStack", d+m.constant(n.L[0])+2)
			m.locals = &means{n.S, d, m.locals}
		default:
			m.node(n)
		}
	}
	if m.depth != b {
		m.put("OStack", b)
	}
}

// numbersOf returns what the numbers of a template's steps are.
func (m *model) numbersOf(n api.Node) map[string]int {
	l := map[string]int{"b": m.depth, "b+1": m.depth + 1, "b+2": m.depth + 2, "N": n.N, "0": 0, "4": 4, "Add": api.Add, "And": api.And, "Or": api.Or, "Shl": api.Shl, "Shr": api.Shr, "by": 1, "LeGe": api.Le}
	if n.Op == api.CFor && n.N == 1 {
		l["by"] = m.constant(n.L[2])
		if l["by"] < 0 {
			l["LeGe"] = api.Ge
		}
	}
	if n.Op == api.ESel {
		size, shift, offset, err := scope.Selector(m.constant(n.L[0]))
		if err != api.OK {
			panic("no selector")
		}
		l["size"], l["shift"], l["offset"] = size, shift, offset
		l["mask"] = []int{-1, 1, 3, 7, 15, 31, 63, 127, 255, 511, 1023, 2047, 4095, 8191, 16383, 32767, 65535}[size]
		l["others"] = -1 - int(int32(l["mask"]<<shift))
	}
	return l
}

// run puts what a template says. Only an assignment has a right.
func (m *model) run(n api.Node, steps string, right *api.Node) {
	numbers := m.numbersOf(n)
	number := func(word string) int {
		if i, ok := numbers[word]; ok {
			return i
		}
		i, ok := m.leads.of(word)
		if !ok {
			panic(word)
		}
		return i
	}
	for step := range strings.SplitSeq(steps, ";") {
		words := strings.Fields(step)
		if len(words) > 0 && words[0][0] == '?' {
			if number(words[0][1:]) == 0 {
				continue
			}
			words = words[1:]
		}
		if len(words) == 0 {
			continue
		}
		switch first := words[0]; {
		case first == "right":
			m.node(*right)
		case first == "last":
			m.node(n.L[len(n.L)-1])
		case first >= "1" && first <= "3":
			m.node(n.L[first[0]-'1'])
		case first == "new":
			for _, word := range words[1:] {
				numbers[word] = m.label()
			}
		case first == "name":
			m.locals = &means{n.S, numbers["b"], m.locals}
		case first == "lab":
			m.put("OLabel", number(words[1]))
			if len(words) > 2 {
				m.put("OStack", number(words[2]))
			} else {
				m.put("OStack", m.depth)
			}
		case first[0] == 'C':
			m.leads = &means{first, number(words[1]), m.leads}
		default:
			var l []int
			for _, word := range words[1:] {
				l = append(l, number(word))
			}
			m.put(first, l...)
		}
	}
}
