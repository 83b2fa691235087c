package stack

import (
	"strings"

	"bluebell/api"
)

// point is where a program stands: its frame, how many locals of it are in use, and the place of the next instruction.
type point struct {
	frame, depth, place int
}

// machine is a run, from before its first step until it has ended.
type machine struct {
	*program
	point    // of the running stack
	words    *memory
	heap     int // the first word that is not taken yet
	given    []given
	running  *routine
	routines map[int]*routine // the coroutines, by their addresses
	kept     int              // by OResult for the OTake to which it leads
	input    string           // what was not read yet
	out      strings.Builder
	steps    int
	hasEnded bool
	result   api.Result // how it has ended
	begun    []int      // how often the instruction at each place began
	called   []bool     // whether each procedure was called
}

func newMachine(p *program, words *memory, input string) *machine {
	return &machine{
		program:  p,
		point:    point{frame: api.StackBase},
		words:    words,
		heap:     api.HeapBase,
		given:    givenProcedures(),
		running:  &routine{first: api.StackBase, last: api.HeapBase - 1},
		routines: map[int]*routine{},
		input:    input,
		begun:    make([]int, len(p.ops)),
		called:   make([]bool, len(p.enters)-1),
	}
}

// run does up to n further steps.
func (m *machine) run(n int) {
	for ; n > 0 && !m.hasEnded; n-- {
		m.step()
	}
}

// until returns how many steps it did.
func (m *machine) until(places []int, n int) int {
	isOne := make([]bool, len(m.ops))
	for _, place := range places {
		if place >= 0 && place < len(isOne) {
			isOne[place] = true
		}
	}
	for done := 1; ; done++ {
		m.step()
		if done == n || m.hasEnded || isOne[m.place] {
			return done
		}
	}
}

func (m *machine) step() {
	err := m.advance()
	m.steps++
	if err != api.OK {
		m.end(api.Result{End: api.Fault, Why: err})
	}
}

func (m *machine) advance() api.Errno {
	if m.steps == 0 {
		return m.start()
	}
	for m.ops[m.place].Op == api.OLabel {
		m.place++
	}
	o := m.ops[m.place]
	m.begun[m.place]++
	m.place++ // where most of them go on
	return m.do(o)
}

func (m *machine) end(r api.Result) {
	m.hasEnded = true
	m.result = r
}

// sofar returns the result of the steps that were done.
func (m *machine) sofar() api.Result {
	r := api.Result{End: api.Fuel}
	if m.hasEnded {
		r = m.result
	}
	r.Out, r.Steps = m.out.String(), m.steps
	return r
}

func (m *machine) state() State {
	switch {
	case m.hasEnded:
		return State{Ended: true}
	case m.steps == 0: // no procedure is called yet
		return State{Frame: m.frame}
	}
	return m.stateOf(m.point, m.running)
}

func (m *machine) stateOf(at point, r *routine) State {
	return State{Place: at.place, Frame: at.frame, Depth: at.depth, Proc: m.procAt[at.place], Co: r.co}
}

// walk follows the links from the inside out. Each one leads to a frame below, or to the parent, so that it comes to an end.
func (m *machine) walk() []State {
	if m.hasEnded || m.steps == 0 {
		return nil
	}
	l := []State{m.state()}
	r, frame := m.running, m.frame
	for {
		to, isFirst, ok := m.link(frame, r)
		if !ok || isFirst && r.parent == nil {
			return l
		}
		if isFirst {
			r = r.parent
			to = r.at
		}
		l = append(l, m.stateOf(to, r))
		frame = to.frame
	}
}
