package ocode_test

import (
	"math"
	"math/rand"
	"slices"
	"strings"

	"bluebell/api"
)

// maker makes valid code, always the same, and changes it. What it makes is not what a compiler would make: labels stand in rows, vary in their order, and behind what code does not go on from there is dead code.
type maker struct {
	*rand.Rand
	areas, procs int
	free         []int    // numbers of labels that are not taken yet
	ops          []api.Op // so far
	// In a procedure:
	depth  int
	stacks []int // labels that lead to an OStack
	takes  []int // labels that lead to an OTake
	later  []int // labels of both kinds that are not there yet
}

func newMaker(seed int64) *maker {
	return &maker{Rand: rand.New(rand.NewSource(seed))}
}

// oneOf returns one of a list that is not empty.
func (m *maker) oneOf(l []int) int {
	return l[m.Intn(len(l))]
}

func (m *maker) number() int {
	return m.oneOf([]int{0, 1, -1, 2, 255, 32767, -32768, 65536, math.MaxInt32, math.MinInt32, m.Intn(1000)})
}

func (m *maker) string() string {
	var b strings.Builder
	for range m.oneOf([]int{0, 1, 2, 3, 10, 99, 100}) {
		b.WriteByte(byte(m.oneOf([]int{'a', '*', '"', '\'', '\n', '\t', ' ', '~', 32 + m.Intn(95)})))
	}
	return b.String()
}

func (m *maker) code() api.Code {
	c := api.Code{Name: m.string()}
	m.areas, m.procs, m.ops, m.free = m.Intn(4), m.Intn(5), nil, m.Perm(40)
	for range m.areas {
		c.Data = append(c.Data, m.area())
	}
	for p := range m.procs {
		m.proc(p + 1)
	}
	if m.procs > 0 {
		for _, g := range m.Perm(api.GlobalSize - 1)[:m.Intn(4)] {
			c.Globals = append(c.Globals, api.Entry{Global: g + 1, Proc: 1 + m.Intn(m.procs)})
		}
	}
	whole := finished(m.ops)
	c.Ops, c.Procs, c.Labels = whole.Ops, whole.Procs, whole.Labels
	return c
}

func (m *maker) area() api.Data {
	if m.Intn(2) == 0 {
		return text(m.string())
	}
	d := words(1 + m.Intn(4))
	for i := range d.Words {
		d.Words[i] = m.number()
	}
	return d
}

// labels returns a few numbers that no other label has.
func (m *maker) labels() []int {
	var l []int
	for range m.Intn(4) {
		l = append(l, m.free[0]+1)
		m.free = m.free[1:]
	}
	return l
}

func (m *maker) proc(p int) {
	m.stacks, m.takes = m.labels(), m.labels()
	m.later = slices.Concat(m.stacks, m.takes)
	m.put(api.OEnter, p, m.Intn(api.MaxArgs+1))
	for range m.Intn(25) {
		m.instruction()
		if len(m.later) > 0 && m.Intn(4) == 0 {
			m.place()
		}
	}
	for len(m.later) > 0 {
		m.place()
	}
	m.end()
}

// put appends an instruction. The depth is kept here, too, since what may come next hangs on it.
func (m *maker) put(op, n, second int) {
	m.ops = append(m.ops, api.Op{Op: op, N: n, M: second})
	switch op {
	case api.OEnter:
		m.depth = 2 + second
	case api.OStack:
		m.depth = n
	case api.OCall, api.OTake:
		m.depth = n + 1
	default:
		m.depth += modelEffect[modelName(api.Code{Ops: m.ops}, len(m.ops)-1)][1]
	}
}

// goesOn reports whether code goes on behind what is there so far.
func (m *maker) goesOn() bool {
	return modelGoesOn(api.Code{Ops: m.ops}, len(m.ops))
}

// end appends an instruction behind which code does not go on.
func (m *maker) end() {
	above := m.depth - 2
	switch m.Intn(5) {
	case 0:
		if len(m.stacks) > 0 {
			m.put(api.OJump, m.oneOf(m.stacks), 0)
			return
		}
	case 1:
		if above > 0 {
			m.put(api.OReturn, 0, 0)
			return
		}
	case 2:
		if above > 0 && len(m.takes) > 0 {
			m.put(api.OResult, m.oneOf(m.takes), 0)
			return
		}
	case 3:
		if above > 0 && len(m.stacks) > 0 {
			m.choose()
			return
		}
	}
	m.put(api.OBack, 0, 0)
}

// choose appends an OSwitch with its cases.
func (m *maker) choose() {
	cases := m.Intn(4)
	m.put(api.OSwitch, m.oneOf(m.stacks), cases)
	for range cases {
		m.put(api.OCase, m.number(), m.oneOf(m.stacks))
	}
}

// place appends some of the labels that are not there yet, in a row, and what has to stand behind them.
func (m *maker) place() {
	m.Shuffle(len(m.later), func(i, j int) { m.later[i], m.later[j] = m.later[j], m.later[i] })
	take := slices.Contains(m.takes, m.later[0])
	if take && m.goesOn() {
		m.end()
	}
	for n := 1 + m.Intn(3); n > 0 && len(m.later) > 0 && slices.Contains(m.takes, m.later[0]) == take; n-- {
		m.put(api.OLabel, m.later[0], 0)
		m.later = m.later[1:]
	}
	if take {
		m.put(api.OTake, 1+m.Intn(20), 0)
		return
	}
	m.put(api.OStack, m.oneOf([]int{2, 3, 4, 6, 10, 30, 4000 - m.Intn(20)}), 0)
}

// instruction appends one, or a few, that may stand here.
func (m *maker) instruction() {
	above := m.depth - 2
	if m.depth > 3990 {
		m.put(api.OStack, 2+m.Intn(30), 0)
		return
	}
	if !m.goesOn() && m.Intn(20) == 0 {
		m.put(api.OTake, 1+m.Intn(20), 0) // in dead code: it is not gone on to
		return
	}
	switch choice := m.Intn(14); {
	case choice < 3:
		m.push()
	case choice < 5 && above > 0:
		m.put(m.oneOf([]int{api.OLoad, api.OPutG}), 0, 0)
	case choice == 5 && above > 0:
		m.put(api.OPutL, 2+m.Intn(above), 0)
	case choice == 6 && above > 0 && m.areas > 0:
		m.put(api.OPutS, m.Intn(m.areas), 0)
	case choice == 7 && above > 1:
		m.put(m.oneOf([]int{api.OStore, api.OGetB}), 0, 0)
	case choice == 8 && above > 1:
		m.put(api.OBin, api.Mul+m.Intn(17), 0)
	case choice == 9 && above > 2:
		m.put(m.oneOf([]int{api.OPutB, api.OPutB, api.OCall}), 0, 0)
		if o := &m.ops[len(m.ops)-1]; o.Op == api.OCall {
			o.N = 2 + m.Intn(above-2)
			m.depth = o.N + 1
		}
	case choice == 10 && above > 0:
		m.put(api.OUn, api.Neg+m.Intn(2), 0)
	case choice == 11:
		m.put(api.OStack, m.oneOf([]int{2, m.depth, m.depth + 2, min(4000, m.depth+api.MaxVec+2)}), 0)
	case choice == 12 && above > 0 && len(m.stacks) > 0:
		m.put(m.oneOf([]int{api.OTrue, api.OFalse}), m.oneOf(m.stacks), 0)
	case choice == 13:
		m.end()
	default:
		m.push()
	}
}

func (m *maker) push() {
	switch choice := m.Intn(8); {
	case choice == 0 && m.depth > 2:
		m.put(api.OLocal, 2+m.Intn(m.depth-2), 0)
	case choice == 1:
		m.put(api.OAddrL, m.oneOf([]int{2, m.depth, 4000}), 0)
	case choice == 2:
		m.put(m.oneOf([]int{api.OGlobal, api.OAddrG}), m.oneOf([]int{0, 1, api.GlobalSize - 1}), 0)
	case choice == 3 && m.areas > 0:
		m.put(m.oneOf([]int{api.OStatic, api.OAddrS}), m.Intn(m.areas), 0)
	case choice == 4:
		m.put(api.OProc, 1+m.Intn(m.procs), 0)
	default:
		m.put(api.ONum, m.number(), 0)
	}
}

// changed returns code with something that is another one; perhaps it is wrong then.
func (m *maker) changed(c api.Code) api.Code {
	c.Ops, c.Globals, c.Data = slices.Clone(c.Ops), slices.Clone(c.Globals), slices.Clone(c.Data)
	if m.Intn(8) == 0 || len(c.Ops) == 0 {
		m.changeParts(&c)
		return c
	}
	m.changeOps(&c)
	if m.Intn(2) == 0 {
		c.Procs, c.Labels = modelGreatest(c, "enter"), modelGreatest(c, "label")
	}
	return c
}

// near returns a number that is often just within, or beyond, a limit.
func (m *maker) near(n int) int {
	return m.oneOf([]int{n - 1, n + 1, n + 2, -n, 0, 1, 2, 3, 1 + m.Intn(40), m.depth, 4000, 4001, api.GlobalSize, math.MaxInt32 + 1, math.MinInt32 - 1, math.MaxInt, math.MinInt})
}

func (m *maker) changeOps(c *api.Code) {
	at, other := m.Intn(len(c.Ops)), m.Intn(len(c.Ops))
	o := &c.Ops[at]
	switch m.Intn(10) {
	case 0, 1, 2:
		o.N = m.near(o.N)
	case 3:
		o.M = m.near(o.M)
	case 4:
		o.Op = m.Intn(32)
	case 5:
		*o = c.Ops[other]
	case 6:
		*o, c.Ops[other] = c.Ops[other], *o
	case 7:
		c.Ops = slices.Delete(c.Ops, at, at+1)
	case 8:
		c.Ops = slices.Insert(c.Ops, at, c.Ops[other])
	case 9:
		c.Ops = slices.Insert(c.Ops, at, api.Op{Op: 1 + m.Intn(30), N: m.Intn(6)})
	}
}

func (m *maker) changeParts(c *api.Code) {
	switch m.Intn(8) {
	case 0:
		c.Procs = m.oneOf([]int{-1, c.Procs - 1, c.Procs + 1, api.MaxProcs, api.MaxProcs + 1, math.MaxInt, math.MinInt})
	case 1:
		c.Labels = m.oneOf([]int{-1, c.Labels - 1, c.Labels + 1, 20000, 20001, math.MaxInt, math.MinInt})
	case 2:
		c.Name += m.oneOfTexts()
	case 3, 4:
		c.Globals = append(c.Globals, api.Entry{Global: m.near(1), Proc: m.near(1)})
	case 5:
		if len(c.Globals) > 0 {
			c.Globals = append(c.Globals, c.Globals[0])
		}
	case 6:
		c.Data = append(c.Data, api.Data{Text: m.oneOfTexts(), IsText: m.Intn(2) == 0, Words: []int{m.near(5)}[:m.Intn(2)]})
	case 7:
		if len(c.Data) > 0 {
			c.Data = c.Data[:len(c.Data)-1]
		}
	}
}

func (m *maker) oneOfTexts() string {
	return []string{"", "a", "\x00", "\r", "é", strings.Repeat("b", 100), strings.Repeat("b", 101)}[m.Intn(7)]
}
