package stack_test

import (
	"slices"
	"strings"

	"bluebell/api"
	"bluebell/ocode"
	"bluebell/stack"
	"bluebell/word"
)

// model is the machine as the chapter tells it, one sentence after the other: it works on the code as it is, and looks for labels, calls and rooms when they are needed.
type model struct {
	code   api.Code
	form   api.Form
	areas  []int
	memory []int
	taken  int // words of the heap

	frame, depth, place int
	kept                int

	co  int // the address of what is running, 0 for the main program
	cos map[int]*modelCo

	input   string
	steps   int
	ended   bool
	result  api.Result
	profile []int
	cover   []bool
}

type modelCo struct {
	proc, size int
	isRest     bool
	isBegun    bool
	parent     int
	// Where it goes on, and the local that gets the result of its callco or cowait.
	frame, place, local int
}

func newModel(c api.Code, f api.Form, input string) *model {
	m := &model{code: c, form: f, input: input, memory: make([]int, api.MemSize), frame: api.StackBase, cos: map[int]*modelCo{0: {size: api.HeapBase - api.StackBase}}}
	m.areas, _, _ = ocode.Layout(c, f)
	for g := range api.GlobalSize {
		if g >= rdch && g <= deleteco {
			m.memory[g] = api.MemSize + 500 + g
		}
		for _, e := range c.Globals {
			if e.Global == g {
				m.memory[g] = api.MemSize + e.Proc
			}
		}
	}
	for i, d := range c.Data {
		l, _ := ocode.Words(d, f)
		for j, w := range l {
			m.memory[m.areas[i]+j] = w
		}
	}
	m.profile = make([]int, len(c.Ops))
	m.cover = make([]bool, c.Procs)
	return m
}

// at returns the word at an address, or faults.
func (m *model) at(a int) *int {
	if a < 0 || a >= api.MemSize {
		panic(api.ErrAddress)
	}
	return &m.memory[a]
}

func (m *model) norm(n int) int {
	size := 1 << m.form.Bits
	n = (n%size + size) % size
	if n >= size/2 {
		n -= size
	}
	return n
}

func (m *model) push(w int) {
	*m.at(m.frame + m.depth) = m.norm(w)
	m.depth++
}

func (m *model) pop() int {
	w := *m.at(m.frame + m.depth - 1)
	m.depth--
	return w
}

func (m *model) name(place int) string {
	return strings.Fields(opNames)[m.code.Ops[place].Op-1]
}

// find returns the place of an instruction.
func (m *model) find(op, n int) int {
	return slices.IndexFunc(m.code.Ops, func(o api.Op) bool { return o.Op == op && o.N == n })
}

// end ends the run with what it is told.
func (m *model) end(end, code int, why api.Errno) {
	m.ended = true
	m.result.End, m.result.Code, m.result.Why = end, code, why
}

func (m *model) step() {
	defer func() {
		if why, ok := recover().(api.Errno); ok {
			m.end(api.Fault, 0, why)
		}
	}()
	m.steps++
	if m.steps == 1 {
		m.callProc(m.memory[1], api.StackBase, api.StackBase, -1)
		return
	}
	for m.name(m.place) == "label" {
		m.place++
	}
	here := m.place
	m.profile[here]++
	m.place++
	m.do(m.name(here), m.code.Ops[here])
}

func (m *model) do(name string, o api.Op) {
	switch name {
	case "num":
		m.push(o.N)
	case "local":
		m.push(*m.at(m.frame + o.N))
	case "putl":
		w := m.pop()
		*m.at(m.frame + o.N) = w
	case "addrl":
		m.push(m.frame + o.N)
	case "global":
		m.push(m.memory[o.N])
	case "putg":
		m.memory[o.N] = m.pop()
	case "addrg":
		m.push(o.N)
	case "static":
		m.push(m.memory[m.areas[o.N]])
	case "puts":
		m.memory[m.areas[o.N]] = m.pop()
	case "addrs":
		m.push(m.areas[o.N])
	case "proc":
		m.push(api.MemSize + o.N)
	case "load":
		m.push(*m.at(m.pop()))
	case "store":
		a := m.pop()
		w := m.pop()
		*m.at(a) = w
	case "getb", "putb":
		m.byte(name)
	case "bin":
		b := m.pop()
		a := m.pop()
		m.operate(o.N, a, b)
	case "un":
		m.operate(o.N, m.pop(), 0)
	default:
		m.goOn(name, o)
	}
}

func (m *model) operate(op, a, b int) {
	w, err := word.Apply(op, a, b, m.form.Bits)
	if err != api.OK {
		panic(err)
	}
	m.push(w)
}

func (m *model) byte(name string) {
	i := m.pop()
	a := m.pop()
	n := m.form.Bits / 8
	rest := (i%n + n) % n
	cell := m.at(a + (i-rest)/n)
	b, _ := word.Bytes([]int{*cell}, m.form)
	if name == "getb" {
		m.push(int(b[rest]))
		return
	}
	b[rest] = byte(m.pop())
	l, _ := word.Words(b, m.form)
	*cell = l[0]
}

func (m *model) goOn(name string, o api.Op) {
	switch name {
	case "stack":
		m.depth = o.N
	case "enter":
		m.depth = 2 + o.M
	case "jump":
		m.place = m.find(api.OLabel, o.N)
	case "true":
		if m.pop() != 0 {
			m.place = m.find(api.OLabel, o.N)
		}
	case "false":
		if m.pop() == 0 {
			m.place = m.find(api.OLabel, o.N)
		}
	case "switch":
		w := m.pop()
		label := o.N
		for i := o.M - 1; i >= 0; i-- {
			if c := m.code.Ops[m.place+i]; m.norm(c.N) == w {
				label = c.M
			}
		}
		m.place = m.find(api.OLabel, label)
	case "result":
		m.kept = m.pop()
		m.place = m.find(api.OLabel, o.N)
	case "take":
		m.depth = o.N
		m.push(m.kept)
	case "call":
		m.call(o.N)
	case "return":
		m.back(m.pop())
	case "back":
		m.back(0)
	}
}

func (m *model) call(n int) {
	w := m.pop()
	if g := w - api.MemSize - 500; g >= rdch && g <= deleteco {
		m.depth = n + 1
		m.given(g, m.frame+n)
		return
	}
	m.callProc(w, m.frame+n, m.frame, m.place)
}

// callProc calls the procedure that a word is, with its frame at an address.
func (m *model) callProc(w, at, frame, place int) {
	p := w - api.MemSize
	if p < 1 || p > m.code.Procs {
		panic(api.ErrCall)
	}
	rooms, _ := ocode.Room(m.code)
	if at+rooms[p-1] > m.beginning()+m.cos[m.co].size { // the first address behind the room, and behind the stack
		panic(api.ErrRoom)
	}
	m.cover[p-1] = true
	*m.at(at) = m.norm(frame)
	*m.at(at + 1) = m.norm(place)
	m.frame, m.depth, m.place = at, 0, m.find(api.OEnter, p)
}

// beginning returns where the running stack begins.
func (m *model) beginning() int {
	if m.co == 0 {
		return api.StackBase
	}
	return m.co
}

// caller returns where the link at a frame leads, in a stack that begins somewhere.
func (m *model) caller(at, beginning int) (frame, depth, place int, isFirst bool) {
	frame, place = *m.at(at), *m.at(at + 1)
	if place == -1 && frame == at && at == beginning {
		return 0, 0, 0, true
	}
	for i, o := range m.code.Ops {
		if o.Op == api.OCall && m.norm(i+1) == place && frame >= api.StackBase && frame < api.MemSize && frame+o.N == at {
			return frame, o.N + 1, i + 1, false
		}
	}
	panic(api.ErrCall)
}

func (m *model) back(w int) {
	frame, depth, place, isFirst := m.caller(m.frame, m.beginning())
	switch {
	case !isFirst:
		*m.at(m.frame) = w
		m.frame, m.depth, m.place = frame, depth, place
	case m.co == 0:
		m.end(api.Done, 0, api.OK)
	default:
		m.cos[m.co].isBegun = false
		m.wait(w)
	}
}

// given calls the given procedure with the global g; its result goes to an address.
func (m *model) given(g, to int) {
	arg := func(i int) int { return *m.at(to + 2 + i) }
	switch g {
	case rdch:
		w := -1
		if len(m.input) > 0 {
			w = int(m.input[0])
			m.input = m.input[1:]
		}
		*m.at(to) = w
	case wrch:
		w := arg(0)
		if len(m.result.Out) == api.MaxOutput {
			panic(api.ErrLimit)
		}
		m.result.Out += string([]byte{byte(w)})
		*m.at(to) = 0
	case stop:
		m.end(api.Stopped, arg(0), api.OK)
	case getvec:
		w := m.take(arg(0))
		*m.at(to) = w
	case freevec:
		arg(0)
		*m.at(to) = 0
	case muldiv:
		w, _, err := word.MulDiv(arg(0), arg(1), arg(2), m.form.Bits)
		if err != api.OK {
			panic(err)
		}
		*m.at(to) = w
	default:
		m.givenCo(g, to)
	}
}

func (m *model) take(n int) int {
	if n < 0 || m.taken+n+1 > api.MemSize-api.HeapBase {
		return 0
	}
	a := api.HeapBase + m.taken
	m.taken += n + 1
	for i := range n + 1 {
		m.memory[a+i] = 0
	}
	return a
}

func (m *model) givenCo(g, to int) {
	arg := func(i int) int { return *m.at(to + 2 + i) }
	switch g {
	case createco:
		f, n := arg(0), arg(1)
		c := m.take(n)
		if c != 0 {
			m.cos[c] = &modelCo{proc: f, size: n + 1, isRest: true}
		}
		*m.at(to) = c
	case callco:
		c, v := arg(0), arg(1)
		m.resting(c)
		m.callCo(c, v)
	case cowait:
		v := arg(0)
		if m.co == 0 {
			panic(api.ErrState)
		}
		m.wait(v)
	case deleteco:
		c := arg(0)
		m.resting(c)
		delete(m.cos, c)
		*m.at(to) = 0
	}
}

// resting faults unless there is a coroutine at rest.
func (m *model) resting(c int) {
	if c == 0 || m.cos[c] == nil {
		panic(api.ErrCall)
	}
	if !m.cos[c].isRest {
		panic(api.ErrState)
	}
}

func (m *model) callCo(c, v int) {
	to, from := m.cos[c], m.cos[m.co]
	from.frame, from.place, from.local = m.frame, m.place, m.depth-1
	to.parent, to.isRest = m.co, false
	m.co = c
	if to.isBegun {
		m.goOnIn(c, v)
		return
	}
	if p := to.proc - api.MemSize; p >= 1 && p <= m.code.Procs {
		if rooms, _ := ocode.Room(m.code); c+rooms[p-1] > c+to.size {
			panic(api.ErrRoom)
		}
		*m.at(c + 2) = v
	}
	to.isBegun = true
	m.callProc(to.proc, c, c, -1)
}

// goOnIn goes on in a stack, with a word as the result of its callco or cowait.
func (m *model) goOnIn(c, w int) {
	m.co = c
	to := m.cos[c]
	m.frame, m.place, m.depth = to.frame, to.place, to.local+1
	*m.at(to.frame + to.local) = w
}

func (m *model) wait(w int) {
	from := m.cos[m.co]
	from.frame, from.place, from.local = m.frame, m.place, m.depth-1
	from.isRest = true
	m.goOnIn(from.parent, w)
}

// state, walk and sofar are what the methods of the machine return.

func (m *model) state() stack.State {
	switch {
	case m.ended:
		return stack.State{Ended: true}
	case m.steps == 0:
		return stack.State{Frame: api.StackBase}
	}
	return m.stateAt(m.frame, m.depth, m.place, m.co)
}

func (m *model) stateAt(frame, depth, place, co int) stack.State {
	proc := 0
	for _, o := range m.code.Ops[:place+1] {
		if o.Op == api.OEnter {
			proc++
		}
	}
	return stack.State{Place: place, Frame: frame, Depth: depth, Proc: proc, Co: co}
}

func (m *model) walk() (l []stack.State) {
	if m.ended || m.steps == 0 {
		return nil
	}
	defer func() { _ = recover() }() // where a return would fault
	l = append(l, m.state())
	co, at := m.co, m.frame
	for {
		beginning := co
		if co == 0 {
			beginning = api.StackBase
		}
		frame, depth, place, isFirst := m.caller(at, beginning)
		if isFirst && co == 0 {
			return l
		}
		if isFirst {
			co = m.cos[co].parent
			frame, depth, place = m.cos[co].frame, m.cos[co].local+1, m.cos[co].place
		}
		l = append(l, m.stateAt(frame, depth, place, co))
		at = frame
	}
}

func (m *model) sofar() api.Result {
	r := m.result
	r.Steps = m.steps
	if !m.ended {
		r.End = api.Fuel
	}
	return r
}
