package stack

import "bluebell/api"

// routine is the main program or a coroutine.
type routine struct {
	co          int // its address; 0: the main program
	first, last int // the words of its stack
	f           int // the word that is called at its beginning
	isUnderWay  bool
	at          point    // where it goes on, unless it runs or is at its beginning
	parent      *routine // nil: it is at rest, or the main program
}

func (m *machine) createco(a arguments) api.Errno {
	c := m.take(a[1])
	if c != 0 {
		m.routines[c] = &routine{co: c, first: c, last: m.heap - 1, f: a[0]}
	}
	return m.give(c)
}

// atRest returns the coroutine at an address.
func (m *machine) atRest(c int) (*routine, api.Errno) {
	r, ok := m.routines[c]
	switch {
	case !ok:
		return nil, api.ErrCall
	case r.parent != nil:
		return nil, api.ErrState
	}
	return r, api.OK
}

func (m *machine) callco(a arguments) api.Errno {
	r, err := m.atRest(a[0])
	if err != api.OK {
		return err
	}
	if !r.isUnderWay {
		return m.begin(r, a[1])
	}
	r.parent = m.running
	m.turnTo(r)
	return m.give(a[1])
}

// begin calls a coroutine's procedure with an argument.
func (m *machine) begin(r *routine, v int) api.Errno {
	p, ok := m.procedure(r.f)
	if !ok {
		return api.ErrCall
	}
	if !m.fits(p, r.first, r) {
		return api.ErrRoom
	}
	if err := m.words.store(r.first+linkSize, v); err != api.OK {
		return err
	}
	r.isUnderWay = true
	r.parent = m.running
	m.turnTo(r)
	return m.enter(p, r.first, r.first, outermost)
}

// turnTo lets another stack run. The one that runs goes on, later, where it stands.
func (m *machine) turnTo(r *routine) {
	m.running.at = m.point
	m.running = r
	m.point = r.at
}

func (m *machine) cowait(a arguments) api.Errno {
	r := m.running
	if r.parent == nil {
		return api.ErrState
	}
	parent := r.parent
	r.parent = nil
	m.turnTo(parent)
	return m.give(a[0])
}

// leave is a return from the first procedure of a stack.
func (m *machine) leave(w int) api.Errno {
	if m.running.parent == nil {
		m.end(api.Result{End: api.Done})
		return api.OK
	}
	m.running.isUnderWay = false
	return m.cowait(arguments{w})
}

func (m *machine) deleteco(a arguments) api.Errno {
	if _, err := m.atRest(a[0]); err != api.OK {
		return err
	}
	delete(m.routines, a[0])
	return m.give(0)
}
