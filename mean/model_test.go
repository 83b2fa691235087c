package mean_test

import (
	"slices"

	"bluebell/api"
	"bluebell/scope"
	"bluebell/word"
)

// The model: the chapter once more, told by walking through the trees themselves. Names are looked for whenever they are come to, by where they stand in the text; a local that a jump passed by is made when its name is used.

// kind is a kind of modelled values.
type kind int

const (
	nothing kind = iota
	aNumber
	anAddress
	aProcedure
)

type modelValue struct {
	kind kind
	n    int // the number, or the offset
	of   *modelObject
	proc string
}

type modelCell struct {
	value modelValue
	bytes map[int]int // nil: it has none
}

type modelObject struct {
	cells          []modelCell
	hasEnded       bool
	isText, isHeap bool
	length         int
	vector         *modelObject
}

// modelEnd ends a modelled run.
type modelEnd struct {
	end, code int
	why       api.Errno
}

type model struct {
	form      api.Form
	tops      []scope.Top
	decls     []api.Node
	cells     map[string]*modelObject
	texts     map[*api.Node]*modelObject
	input     string
	out       []byte
	steps     int
	fuel      int
	narrow    bool
	words     []int // of the calls that go on
	heap      int
	names     []string
	valofGave modelValue
}

// surroundings are the names at a place: those of a block in front of its item, or of parameters or a loop.
type surroundings struct {
	up    *surroundings
	block *api.Node
	item  int
	lets  map[[2]int]*modelObject // of the block, by item and name
	names map[string]*modelObject
}

// way tells how a command was left: "" at its end.
type way struct {
	how, label string
}

// modelRun is Run, for a program without errors, and Trace.
func modelRun(s api.Section, f api.Form, input string, fuel int) (r api.Result, narrow bool, names []string) {
	m := &model{form: f, decls: s.Decls, cells: map[string]*modelObject{}, texts: map[*api.Node]*modelObject{}, input: input, fuel: fuel, narrow: true, heap: api.MemSize - api.HeapBase}
	m.tops, _ = scope.Tops(s)
	for _, d := range s.Decls {
		for _, c := range d.L {
			switch d.Op {
			case api.DStatic:
				m.cells[c.S] = &modelObject{cells: []modelCell{{value: m.constant(c.L[0], true)}}}
			case api.DGlobal:
				m.cells[c.S] = &modelObject{cells: make([]modelCell, 1)}
			}
		}
	}
	end := m.toTheEnd(func() { m.callOwn("start", nil) })
	return api.Result{Out: string(m.out), End: end.end, Code: end.code, Why: end.why, Steps: m.steps}, m.narrow && end.end != api.Wild, m.names[:min(len(m.names), 1000)]
}

func (m *model) toTheEnd(do func()) (end modelEnd) {
	defer func() {
		if e, ok := recover().(modelEnd); ok {
			end = e
		}
	}()
	do()
	return modelEnd{end: api.Done}
}

func (m *model) must(holds bool) {
	if !holds {
		panic(modelEnd{end: api.Wild})
	}
}

func (m *model) step() {
	if m.steps >= m.fuel {
		panic(modelEnd{end: api.Fuel})
	}
	m.steps++
}

func (m *model) number(n int) modelValue {
	return modelValue{kind: aNumber, n: norm(n, m.form)}
}

// constant computes what scope takes for a constant; it may count for what is narrow.
func (m *model) constant(n api.Node, counts bool) modelValue {
	v, _ := scope.Eval(n, m.tops)
	if counts && !fits(v) {
		m.narrow = false
	}
	return m.number(v)
}

// isCell reports whether an address is that of a cell.
func (v modelValue) isCell() bool {
	return v.kind == anAddress && !v.of.hasEnded && v.n >= 0 && v.n < len(v.of.cells)
}

func (m *model) toCell(v modelValue) *modelCell {
	m.must(v.isCell())
	return &v.of.cells[v.n]
}

func (o *modelObject) first() modelValue {
	return modelValue{kind: anAddress, of: o}
}

func (o *modelObject) end() {
	o.hasEnded = true
	if o.vector != nil {
		o.vector.hasEnded = true
	}
}

// word takes a cell that is used as a word.
func (m *model) word(v modelValue) *modelCell {
	c := m.toCell(v)
	m.must(c.bytes == nil)
	size := m.form.Bits / 8
	for at, cell := range v.of.cells {
		for i := range cell.bytes {
			for longer := size; longer <= 4; longer++ {
				if (at*size+i)/longer == v.n {
					m.narrow = false
				}
			}
		}
	}
	return c
}

// theByte finds a byte: its cell and which one it is there.
func (m *model) theByte(v, index modelValue) (*modelCell, int) {
	m.must(v.kind == anAddress && index.kind == aNumber)
	size := m.form.Bits / 8
	at, i := v.n, index.n
	for i < 0 {
		at, i = at-1, i+size
	}
	at, i = at+i/size, i%size
	c := m.toCell(modelValue{kind: anAddress, n: at, of: v.of})
	fine := v.n == 0
	if v.of.isText {
		fine = fine && index.n <= v.of.length
	}
	for _, cell := range v.of.cells {
		fine = fine && (cell.bytes != nil || cell.value.kind == nothing)
	}
	m.narrow = m.narrow && fine
	return c, i
}

func (m *model) apply(op int, a, b modelValue) modelValue {
	w, err := word.Apply(op, a.n, b.n, m.form.Bits)
	if err != api.OK {
		panic(modelEnd{api.Fault, 0, err})
	}
	if op == api.Neg || op == api.Not {
		b.n = 0
	}
	whole := w
	switch op {
	case api.Mul:
		whole = a.n * b.n
	case api.Div:
		whole = a.n / b.n
	case api.Add:
		whole = a.n + b.n
	case api.Sub:
		whole = a.n - b.n
	case api.Neg:
		whole = -a.n
	case api.Shl, api.Shr:
		if a.n < 0 || b.n < 0 || b.n > 15 {
			m.narrow = false
		} else if op == api.Shl {
			whole = a.n << b.n
		}
	}
	m.narrow = m.narrow && fits(a.n) && fits(b.n) && fits(whole)
	return m.number(w)
}

// thing takes what can be compared with another thing, or be a condition.
func (m *model) thing(v modelValue) {
	m.must(v.kind == aProcedure || v.isCell())
	m.compared(v)
}

func (m *model) compared(v modelValue) {
	if v.kind == anAddress && v.of.isText && v.n != 0 {
		m.narrow = false
	}
}

func (m *model) operate(op int, a, b modelValue) modelValue {
	isRelation := op >= api.Eq && op <= api.Ge
	switch {
	case a.kind == aNumber && b.kind == aNumber:
		return m.apply(op, a, b)
	case op == api.Add && a.kind == anAddress && b.kind == aNumber:
		return modelValue{kind: anAddress, of: a.of, n: a.n + b.n}
	case op == api.Add && a.kind == aNumber && b.kind == anAddress:
		return modelValue{kind: anAddress, of: b.of, n: a.n + b.n}
	case op == api.Sub && a.kind == anAddress && b.kind == aNumber:
		return modelValue{kind: anAddress, of: a.of, n: a.n - b.n}
	case a.kind == anAddress && b.kind == anAddress && a.of == b.of:
		m.must((isRelation || op == api.Sub) && a.n >= 0 && b.n >= 0 && max(a.n, b.n) <= len(a.of.cells))
		m.compared(a)
		m.compared(b)
		w, _ := word.Apply(op, a.n, b.n, 32)
		return m.number(w)
	}
	m.must(op == api.Eq || op == api.Ne)
	for _, v := range []modelValue{a, b} {
		if v.kind != aNumber || v.n != 0 {
			m.thing(v)
		}
	}
	return m.number(truth((a == b) == (op == api.Eq)))
}

func (m *model) condition(n *api.Node, at *surroundings) bool {
	v := m.value(n, at)
	if v.kind == aNumber {
		return v.n != 0
	}
	m.thing(v)
	return true
}

// find returns the local with a name, or nil.
func (at *surroundings) find(name string) *modelObject {
	for ; at != nil; at = at.up {
		if o := at.names[name]; o != nil {
			return o
		}
		for i := at.item - 1; i >= 0; i-- {
			n := at.block.L[i]
			count := 0
			if n.Op == api.CLet {
				count = n.N
			}
			for j := range count {
				if n.L[j].S == name {
					return at.let(i, j)
				}
			}
			if n.Op == api.CVec && n.S == name {
				return at.let(i, 0)
			}
		}
	}
	return nil
}

// let returns a local of a block, which is there with nothing if its item was not come to.
func (at *surroundings) let(i, j int) *modelObject {
	key := [2]int{i, j}
	if at.lets[key] == nil {
		at.lets[key] = &modelObject{cells: make([]modelCell, 1)}
	}
	return at.lets[key]
}

// variable returns the object of a name, if it is one of a variable.
func (m *model) variable(name string, at *surroundings) *modelObject {
	if o := at.find(name); o != nil {
		return o
	}
	if slices.ContainsFunc(m.decls, func(d api.Node) bool { return d.Op == api.DProc && d.S == name }) {
		return nil
	}
	return m.cells[name]
}

func (m *model) named(name string, at *surroundings) modelValue {
	if o := m.variable(name, at); o != nil {
		return m.word(o.first()).value
	}
	top, _ := scope.Find(m.tops, name)
	if top.Kind == scope.Manifest {
		return m.constant(api.Node{Op: api.ENum, N: top.N}, true)
	}
	return modelValue{kind: aProcedure, proc: name}
}

// text returns the object of a string or table.
func (m *model) text(n *api.Node) *modelObject {
	if o := m.texts[n]; o != nil {
		return o
	}
	o := &modelObject{}
	if n.Op == api.EStr {
		o.isText, o.length = true, len(n.S)
		size := m.form.Bits / 8
		for i := 0; i <= o.length || i%size != 0; i++ {
			if i%size == 0 {
				o.cells = append(o.cells, modelCell{bytes: map[int]int{}})
			}
			b := 0
			if i == 0 {
				b = o.length
			} else if i <= o.length {
				b = int(n.S[i-1])
			}
			o.cells[i/size].bytes[i%size] = b
		}
	}
	for _, part := range n.L {
		o.cells = append(o.cells, modelCell{value: m.constant(part, false)})
	}
	m.texts[n] = o
	return o
}

// value computes an expression.
func (m *model) value(n *api.Node, at *surroundings) modelValue {
	m.step()
	part := func(i int) modelValue { return m.value(&n.L[i], at) }
	switch n.Op {
	case api.ENum, api.ETrue, api.EFalse, api.ESlct:
		return m.constant(*n, true)
	case api.EStr:
		return m.text(n).first()
	case api.ETable:
		for _, c := range n.L {
			m.constant(c, true)
		}
		return m.text(n).first()
	case api.EName:
		return m.named(n.S, at)
	case api.ECall:
		var args []modelValue
		for i := range n.L[1:] {
			args = append(args, part(1+i))
		}
		return m.call(part(0), args)
	case api.EUn:
		v := part(0)
		m.must(v.kind == aNumber)
		return m.apply(n.N, v, modelValue{})
	case api.EBin:
		a := part(0)
		b := part(1)
		return m.operate(n.N, a, b)
	case api.ELoad, api.ESub:
		return m.word(m.cellOf(n, at)).value
	case api.EByte:
		a := part(0)
		c, i := m.theByte(a, part(1))
		b, ok := c.bytes[i]
		m.must(ok)
		return m.number(b)
	case api.EAddr:
		if n.L[0].Op == api.EName {
			return m.variable(n.L[0].S, at).first()
		}
		return m.cellOf(&n.L[0], at)
	case api.ECond:
		if m.condition(&n.L[0], at) {
			return part(1)
		}
		return part(2)
	case api.EValof:
		if m.command(&n.L[0], at).how == "resultis" {
			return m.valofGave
		}
		return m.number(0)
	case api.ESel:
		return m.selected(n, at)
	}
	return modelValue{}
}

// cellOf computes the address of an ELoad or ESub by its parts.
func (m *model) cellOf(n *api.Node, at *surroundings) modelValue {
	v := m.value(&n.L[0], at)
	if n.Op == api.ESub {
		v = m.operate(api.Add, v, m.value(&n.L[1], at))
	}
	m.must(v.kind == anAddress)
	return v
}

// selector takes a selector apart: where its bits are, and in which word.
func (m *model) selector(n api.Node) (size, shift, offset int) {
	v, _ := scope.Eval(n, m.tops)
	return v % 32, v / 32 % 32, v / 1024
}

func (m *model) selected(n *api.Node, at *surroundings) modelValue {
	size, shift, offset := m.selector(n.L[0])
	p := m.value(&n.L[1], at)
	m.must(p.kind == anAddress)
	p.n += offset
	old := m.word(p).value
	m.must(old.kind == aNumber)
	m.narrow = m.narrow && old.n >= 0 && old.n <= 32767
	return m.number(unsigned(old.n, m.form) & bitsOf(size, shift, m.form) >> shift)
}

func (m *model) assign(left, right *api.Node, at *surroundings) {
	if left.Op == api.ESel {
		m.assignBits(left, right, at)
		return
	}
	r := m.value(right, at)
	switch left.Op {
	case api.EName:
		m.word(m.variable(left.S, at).first()).value = r
	case api.EByte:
		a := m.value(&left.L[0], at)
		c, i := m.theByte(a, m.value(&left.L[1], at))
		m.must(r.kind == aNumber && c.value.kind == nothing)
		if c.bytes == nil {
			c.bytes = map[int]int{}
		}
		c.bytes[i] = r.n & 255
	default:
		m.word(m.cellOf(left, at)).value = r
	}
}

func (m *model) assignBits(left, right *api.Node, at *surroundings) {
	size, shift, offset := m.selector(left.L[0])
	p := m.value(&left.L[1], at)
	r := m.value(right, at)
	m.must(p.kind == anAddress)
	p.n += offset
	c := m.word(p)
	m.must(c.value.kind == aNumber && r.kind == aNumber)
	bits := bitsOf(size, shift, m.form)
	changed := m.number(c.value.n&^bits | r.n<<shift&bits)
	for _, n := range []int{c.value.n, changed.n} {
		m.narrow = m.narrow && n >= 0 && n <= 32767
	}
	if size == 0 {
		m.narrow = m.narrow && r.n >= 0 && r.n<<shift <= 32767
	}
	c.value = changed
}
