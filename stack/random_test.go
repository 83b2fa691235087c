package stack_test

import (
	"math/rand"
	"slices"
	"strconv"
	"strings"

	"bluebell/api"
	"bluebell/ocode"
)

// maker makes valid code, always the same. It means to use memory, links and coroutines in all ways, and mostly so that a run goes on.
type maker struct {
	*rand.Rand
	procs  int
	params []int
	ops    []api.Op // so far
	// In a procedure:
	proc   int
	depth  int
	stacks []int // labels that lead to an OStack
	takes  []int // labels that lead to an OTake
	later  []int // labels of both kinds that are not there yet
	labels int
}

const (
	firstCo = 20 // from this global on are addresses of coroutines
	lastCo  = 23
)

func newMaker(seed int64) *maker {
	return &maker{Rand: rand.New(rand.NewSource(seed))}
}

func (m *maker) oneOf(l ...int) int {
	return l[m.Intn(len(l))]
}

// put appends instructions, and goes along with the depth.
func (m *maker) put(src string, numbers ...int) {
	for _, n := range numbers {
		src = strings.Replace(src, "%", strconv.Itoa(n), 1)
	}
	for _, o := range ops(src) {
		m.ops = append(m.ops, o)
		switch o.Op {
		case api.OEnter:
			m.depth = 2 + o.M
		case api.OStack:
			m.depth = o.N
		case api.OCall, api.OTake:
			m.depth = o.N + 1
		case api.OLabel, api.OJump, api.OBack, api.OCase, api.OLoad, api.OUn:
		case api.OStore:
			m.depth -= 2
		case api.OPutB:
			m.depth -= 3
		case api.OPutL, api.OPutG, api.OPutS, api.OBin, api.OGetB, api.OTrue, api.OFalse, api.OSwitch, api.OReturn, api.OResult:
			m.depth--
		default:
			m.depth++
		}
	}
}

// code makes procedures, the first of which is the global 1.
func (m *maker) code() api.Code {
	m.ops, m.labels, m.procs, m.params = nil, 0, 2+m.Intn(4), nil
	for range m.procs {
		m.params = append(m.params, m.oneOf(0, 1, 1, 1, 2, 8))
	}
	for p := range m.procs {
		m.proc = p + 1
		m.procedure()
	}
	c := finished(m.ops)
	if m.Intn(20) == 0 {
		c.Globals = nil
	}
	if m.Intn(3) == 0 {
		c.Globals = append(c.Globals, api.Entry{Global: m.oneOf(rdch, muldiv, 12, 199), Proc: 1 + m.Intn(m.procs)})
	}
	return c
}

func (m *maker) newLabels() []int {
	var l []int
	for range m.Intn(3) {
		m.labels++
		l = append(l, m.labels)
	}
	return l
}

func (m *maker) procedure() {
	m.stacks, m.takes = m.newLabels(), m.newLabels()
	m.later = slices.Concat(m.stacks, m.takes)
	m.put("enter % %", m.proc, m.params[m.proc-1])
	if m.proc == 1 {
		for g := firstCo; g <= lastCo; g++ {
			m.createCo()
			m.put("putg %", g)
		}
	}
	for range 3 + m.Intn(15) {
		m.instruction()
		if len(m.later) > 0 && m.Intn(6) == 0 {
			m.place()
		}
	}
	for len(m.later) > 0 {
		m.place()
	}
	m.end()
}

// goesOn reports whether code goes on behind what is there so far.
func (m *maker) goesOn() bool {
	switch m.ops[len(m.ops)-1].Op {
	case api.OJump, api.OReturn, api.OBack, api.OResult, api.OCase, api.OSwitch:
		return false
	}
	return true
}

// end appends something behind which code does not go on.
func (m *maker) end() {
	switch m.Intn(6) {
	case 0:
		if len(m.stacks) > 0 {
			m.put("jump %", m.oneOf(m.stacks...))
			return
		}
	case 1:
		if len(m.takes) > 0 {
			m.value()
			m.put("result %", m.oneOf(m.takes...))
			return
		}
	case 2:
		if len(m.stacks) > 0 {
			m.choose()
			return
		}
	case 3:
		m.put("back")
		return
	}
	m.value()
	m.put("return")
}

func (m *maker) choose() {
	m.number()
	n := m.Intn(4)
	m.put("switch % %", m.oneOf(m.stacks...), n)
	for range n {
		m.put("case % %", m.oneOf(0, 1, 2, 65536, 65537, -1, 1<<24+1), m.oneOf(m.stacks...))
	}
}

// place appends some of the labels that are not there yet, in a row, and what has to stand behind them.
func (m *maker) place() {
	take := slices.Contains(m.takes, m.later[0])
	if take && m.goesOn() {
		m.end()
	}
	m.put("label %", m.later[0])
	m.later = m.later[1:]
	for len(m.later) > 0 && slices.Contains(m.takes, m.later[0]) == take && m.Intn(3) == 0 {
		m.put("label %", m.later[0])
		m.later = m.later[1:]
	}
	if take {
		m.put("take %", 2+m.Intn(6))
		return
	}
	m.put("stack %", m.oneOf(2, 4, 6, 10, 30, 400, 1990))
}

// value pushes something.
func (m *maker) value() {
	switch m.Intn(8) {
	case 0:
		m.address()
	case 1:
		m.put("proc %", 1+m.Intn(m.procs))
	case 2:
		m.put("global %", m.oneOf(1, rdch, callco, firstCo, lastCo, 50))
	case 3:
		m.put("static %", m.Intn(3))
	case 4:
		if m.depth > 2 {
			m.put("local %", 2+m.Intn(m.depth-2))
			return
		}
		fallthrough
	default:
		m.number()
	}
}

func (m *maker) number() {
	if m.depth > 2 && m.Intn(3) == 0 {
		m.put("local %", 2+m.Intn(m.depth-2))
		return
	}
	m.put("num %", m.oneOf(0, 1, 2, -1, 255, 32767, -32768, 65536, 1<<23, -1<<31, 1<<31-1, m.Intn(100)))
}

// address pushes one, mostly of a word.
func (m *maker) address() {
	switch m.Intn(7) {
	case 0, 1:
		m.put("addrl %", 2+m.Intn(6))
	case 2:
		m.put("addrg %", m.oneOf(30, 50, api.GlobalSize-1, firstCo))
	case 3:
		m.put("addrs %", m.Intn(3))
	case 4:
		m.put("num %", api.HeapBase+m.Intn(300))
	case 5:
		m.put("num %", m.oneOf(0, api.MemSize-1, 40, api.HeapBase, api.HeapBase-1))
	case 6:
		if m.Intn(20) == 0 {
			m.put("num %", m.oneOf(-1, api.MemSize, 1<<31-1, -1<<31, m.Intn(api.MemSize)))
			return
		}
		m.put("global %", m.oneOf(firstCo, firstCo+1, lastCo))
	}
}

// called pushes arguments and something to call, and calls it.
func (m *maker) called(what func(), arguments ...func()) {
	n := m.depth
	m.put("stack %", n+2)
	for _, argument := range arguments {
		argument()
	}
	what()
	m.put("call %", n)
}

func (m *maker) callGiven(g int, arguments ...func()) {
	m.called(func() { m.put("global %", g) }, arguments...)
}

func (m *maker) createCo() {
	f := func() { m.put("proc %", 1+m.Intn(m.procs)) }
	if m.Intn(20) == 0 {
		f = m.value
	}
	m.callGiven(createco, f, func() {
		m.put("num %", m.oneOf(0, 1, 3, 10, 30, 30, 100, 100, 100, 300, 2000, 2000, 20000, -1))
	})
}

func (m *maker) co() {
	if m.Intn(30) == 0 {
		m.value()
		return
	}
	m.put("global %", firstCo+m.Intn(lastCo-firstCo+1))
}

// call appends a call of some kind.
func (m *maker) call() {
	if m.depth > 3900 {
		m.put("stack 4")
	}
	switch m.Intn(20) {
	case 0, 1, 2, 3, 4:
		p := m.Intn(m.procs)
		var arguments []func()
		for range m.params[p] {
			arguments = append(arguments, m.value)
		}
		m.called(func() { m.put("proc %", p+1) }, arguments...)
	case 5, 6, 7, 8:
		m.callGiven(callco, m.co, m.value)
	case 9, 10:
		m.callGiven(cowait, m.value)
	case 11:
		m.createCo()
		m.put("putg %", firstCo+m.Intn(lastCo-firstCo+1))
	case 12:
		if m.Intn(4) == 0 {
			m.callGiven(deleteco, m.co)
			return
		}
		m.callGiven(rdch)
	case 13, 14:
		m.callGiven(wrch, m.number)
	case 15:
		m.callGiven(getvec, func() { m.put("num %", m.oneOf(0, 1, 5, 100, 9000, -1)) })
	case 16:
		m.callGiven(muldiv, m.number, m.number, func() { m.put("num %", m.oneOf(3, 7, -2, 100, 100, 100, 0)) })
	case 17:
		if m.Intn(6) == 0 {
			m.callGiven(stop, m.number)
			return
		}
		m.callGiven(freevec, m.value)
	case 18:
		m.callGiven(m.oneOf(rdch, wrch, getvec, freevec)) // perhaps without its arguments
	case 19:
		if m.Intn(6) == 0 {
			m.called(m.value, m.value)
		}
	}
}

// writeOver stores something into the link, often something that may stand there.
func (m *maker) writeOver() {
	var calls []int
	for i, o := range m.ops {
		if o.Op == api.OCall {
			calls = append(calls, i)
		}
	}
	if m.Intn(3) == 0 {
		m.put("num %, addrl 2, num 2, bin sub, store", m.oneOf(-1, 0, api.StackBase, api.StackBase-1, api.StackBase+m.Intn(30), api.MemSize))
		return
	}
	if m.Intn(3) == 0 || len(calls) == 0 {
		m.put("num %, addrl 2, num 1, bin sub, store", m.oneOf(-1, -1, 0, 1, len(m.ops), 1<<31-1))
		return
	}
	call := m.oneOf(calls...)
	m.put("num %, addrl 2, num 1, bin sub, store", call+1)
	if m.Intn(2) == 0 {
		m.put("addrl 2, num %, bin sub, addrl 2, num 2, bin sub, store", 2+m.ops[call].N)
	}
}

// instruction appends one, or a few, that may stand here.
func (m *maker) instruction() {
	if m.depth > 3900 || m.depth > 40 && m.Intn(3) == 0 {
		m.put("stack %", 2+m.Intn(20))
	}
	above := m.depth - 2
	switch m.Intn(24) {
	case 0, 1, 2, 3, 4, 5, 6, 7:
		m.call()
	case 8:
		m.address()
		m.put("load")
	case 9:
		m.value()
		m.address()
		m.put("store")
	case 10:
		m.address()
		m.put("num %, getb", m.oneOf(0, 1, 2, 3, 4, -1, -2, -3, -5, 32767))
	case 11:
		m.value()
		m.address()
		m.put("num %, putb", m.oneOf(0, 1, 2, 3, 4, -1, -2, -3, -5))
	case 12, 13:
		m.number()
		m.number()
		m.put("bin %", m.oneOf(api.Mul, api.Add, api.Sub, api.Shl, api.Shr, api.And, api.Or, api.Xor, api.Eqv, api.Eq, api.Ne, api.Lt, api.Le, api.Gt, api.Ge, api.Div, api.Rem))
	case 14:
		m.number()
		m.put("un %", m.oneOf(api.Neg, api.Not))
	case 15:
		if above > 0 {
			m.put("putl %", 2+m.Intn(above))
		}
	case 16:
		m.value()
		m.put("putg %", m.oneOf(30, 50, 199, 0))
	case 17:
		m.value()
		m.put("puts %", m.Intn(3))
	case 18:
		if len(m.stacks) > 0 {
			m.number()
			m.put([]string{"true %", "false %"}[m.Intn(2)], m.oneOf(m.stacks...))
		}
	case 19:
		m.put("stack %", m.oneOf(2, m.depth, m.depth+2, min(4000, m.depth+api.MaxVec+2)))
	case 20:
		m.writeOver()
	case 21:
		if m.Intn(3) == 0 {
			m.end()
		}
	default:
		m.value()
	}
}

// eachCode calls a function with many random codes.
func eachCode(seeds int, do func(seed int64, c api.Code, f api.Form, input string)) {
	for seed := range int64(seeds) {
		m := newMaker(seed)
		c := m.code()
		for ocode.Check(c) != api.OK {
			c = m.code()
		}
		do(seed, c, forms()[seed%6], []string{"", "x", "some input\xff\x00"}[m.Intn(3)])
	}
}
