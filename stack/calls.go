package stack

import (
	"bluebell/api"
	"bluebell/word"
)

const (
	linkSize  = 2  // the words of a link: the caller's frame, and the place behind its call
	outermost = -1 // the place of the first link of a stack: it leads out of it
)

// start calls the global 1, as the first step.
func (m *machine) start() api.Errno {
	p, ok := m.procedure(m.words[1])
	if !ok {
		return api.ErrCall
	}
	return m.enter(p, m.frame, m.frame, outermost)
}

// call calls what is on top; the new frame begins at the local n.
func (m *machine) call(n int) api.Errno {
	w, err := m.pop()
	if err != api.OK {
		return err
	}
	if p, ok := m.procedure(w); ok {
		return m.enter(p, m.frame+n, m.frame, m.place)
	}
	if i := w - givenBase - firstGiven; i >= 0 && i < len(m.given) {
		return m.serve(m.given[i], n)
	}
	return api.ErrCall
}

// enter calls a procedure: its frame begins at an address, and its link leads to a frame and a place.
func (m *machine) enter(p, at, frame, place int) api.Errno {
	if !m.fits(p, at, m.running) {
		return api.ErrRoom
	}
	m.words[at], m.words[at+1] = frame, m.norm(place) // every room holds a link
	m.point = point{frame: at, place: m.enters[p]}
	m.called[p-1] = true
	return api.OK
}

// fits reports whether a stack reaches for a procedure's frame at an address.
func (m *machine) fits(p, at int, r *routine) bool {
	return at+m.room[p]-1 <= r.last
}

// link returns where a return from a frame leads. It is not ok if a program has written over the link so that it leads nowhere. The first link of a stack leads out of it.
func (m *machine) link(frame int, r *routine) (to point, isFirst, ok bool) {
	caller, w := m.words[frame], m.words[frame+1] // a frame had room for its link when it was called, and returns lead to lower ones
	if w == outermost {
		isFirst = frame == r.first && caller == frame
		return point{}, isFirst, isFirst
	}
	place, _ := word.Unsigned(w, m.form.Bits) // by 16 bits a place may be too great for a word with a sign
	if place < 1 || place >= len(m.ops) || m.ops[place-1].Op != api.OCall {
		return point{}, false, false
	}
	n := m.ops[place-1].N
	if caller < api.StackBase || caller+n != frame {
		return point{}, false, false
	}
	return point{frame: caller, depth: n + 1, place: place}, false, true
}

// giveBack returns from a procedure with a word.
func (m *machine) giveBack(w int) api.Errno {
	to, isFirst, ok := m.link(m.frame, m.running)
	if !ok {
		return api.ErrCall
	}
	if isFirst {
		return m.leave(w)
	}
	m.point = to
	return m.give(w)
}

// give makes a word the result of the call behind which the run goes on: it is what the depth there counts last.
func (m *machine) give(w int) api.Errno {
	return m.words.store(m.frame+m.depth-1, w)
}
