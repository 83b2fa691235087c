package stack

import (
	"bluebell/api"
	"bluebell/word"
)

const firstGiven = 2 // the global of the first given procedure

// arguments has room for those of every given procedure.
type arguments [3]int

// given is what a given procedure does with so many arguments. The run stands behind its call by then.
type given struct {
	params int
	do     func(m *machine, a arguments) api.Errno
}

// givenProcedures returns them in the order of their globals.
func givenProcedures() []given {
	return []given{
		{0, (*machine).rdch},
		{1, (*machine).wrch},
		{1, (*machine).stop},
		{1, (*machine).getvec},
		{1, (*machine).freevec},
		{3, (*machine).muldiv},
		{2, (*machine).createco},
		{2, (*machine).callco},
		{1, (*machine).cowait},
		{1, (*machine).deleteco},
	}
}

// serve calls a given procedure, whose frame would begin at the local n.
func (m *machine) serve(g given, n int) api.Errno {
	var a arguments
	for i := range g.params {
		w, err := m.words.load(m.frame + n + linkSize + i)
		if err != api.OK {
			return err
		}
		a[i] = w
	}
	m.depth = n + 1
	return g.do(m, a)
}

func (m *machine) rdch(arguments) api.Errno {
	if m.input == "" {
		return m.give(-1)
	}
	c := m.input[0]
	m.input = m.input[1:]
	return m.give(int(c))
}

func (m *machine) wrch(a arguments) api.Errno {
	if m.out.Len() == api.MaxOutput {
		return api.ErrLimit
	}
	m.out.WriteByte(byte(a[0]))
	return m.give(0)
}

func (m *machine) stop(a arguments) api.Errno {
	m.end(api.Result{End: api.Stopped, Code: a[0]})
	return api.OK
}

func (m *machine) getvec(a arguments) api.Errno {
	return m.give(m.take(a[0]))
}

// take returns the address of the next n + 1 words of the heap, or 0.
func (m *machine) take(n int) int {
	if n < 0 || n+1 > api.MemSize-m.heap {
		return 0
	}
	a := m.heap
	m.heap += n + 1
	clear(m.words[a:m.heap]) // nothing keeps a program from writing there before
	return a
}

func (m *machine) freevec(arguments) api.Errno {
	return m.give(0)
}

func (m *machine) muldiv(a arguments) api.Errno {
	q, _, err := word.MulDiv(a[0], a[1], a[2], m.form.Bits)
	if err != api.OK {
		return err
	}
	return m.give(q)
}
