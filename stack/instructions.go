package stack

import (
	"bluebell/api"
	"bluebell/word"
)

// do does an instruction; the place is the one behind it already.
func (m *machine) do(o api.Op) api.Errno {
	switch o.Op {
	case api.ONum, api.OAddrG, api.OAddrS, api.OProc:
		return m.push(o.N)
	case api.OAddrL:
		return m.push(m.norm(m.frame + o.N))
	case api.OLocal:
		return m.pushFrom(m.frame + o.N)
	case api.OGlobal, api.OStatic:
		return m.pushFrom(o.N)
	case api.OPutL:
		return m.popInto(m.frame + o.N)
	case api.OPutG, api.OPutS:
		return m.popInto(o.N)
	case api.OLoad:
		return m.load()
	case api.OStore:
		return m.store()
	case api.OGetB:
		return m.getByte()
	case api.OPutB:
		return m.putByte()
	case api.OBin:
		return m.apply(o.N, 2)
	case api.OUn:
		return m.apply(o.N, 1)
	}
	return m.goOn(o)
}

// goOn does an instruction that says where the run goes on, or with which depth.
func (m *machine) goOn(o api.Op) api.Errno {
	switch o.Op {
	case api.OStack:
		m.depth = o.N
	case api.OEnter:
		m.depth = linkSize + o.M
	case api.OJump:
		m.place = o.N
	case api.OTrue, api.OFalse:
		return m.jumpIf(o.Op == api.OTrue, o.N)
	case api.OSwitch:
		return m.choose(o)
	case api.OCall:
		return m.call(o.N)
	case api.OReturn:
		w, err := m.pop()
		if err != api.OK {
			return err
		}
		return m.giveBack(w)
	case api.OBack:
		return m.giveBack(0)
	case api.OResult:
		w, err := m.pop()
		m.kept, m.place = w, o.N
		return err
	case api.OTake:
		m.depth = o.N
		return m.push(m.kept)
	}
	return api.OK
}

func (m *machine) push(w int) api.Errno {
	m.depth++
	return m.words.store(m.frame+m.depth-1, w)
}

func (m *machine) pop() (int, api.Errno) {
	m.depth--
	return m.words.load(m.frame + m.depth)
}

// popTwo returns the lower word first.
func (m *machine) popTwo() (a, b int, err api.Errno) {
	if b, err = m.pop(); err != api.OK {
		return 0, 0, err
	}
	a, err = m.pop()
	return a, b, err
}

func (m *machine) pushFrom(a int) api.Errno {
	w, err := m.words.load(a)
	if err != api.OK {
		return err
	}
	return m.push(w)
}

func (m *machine) popInto(a int) api.Errno {
	w, err := m.pop()
	if err != api.OK {
		return err
	}
	return m.words.store(a, w)
}

func (m *machine) load() api.Errno {
	a, err := m.pop()
	if err != api.OK {
		return err
	}
	return m.pushFrom(a)
}

func (m *machine) store() api.Errno {
	v, a, err := m.popTwo()
	if err != api.OK {
		return err
	}
	return m.words.store(a, v)
}

func (m *machine) getByte() api.Errno {
	a, i, err := m.popTwo()
	if err != api.OK {
		return err
	}
	w, err := m.words.getByte(a, i, m.form)
	if err != api.OK {
		return err
	}
	return m.push(w)
}

func (m *machine) putByte() api.Errno {
	a, i, err := m.popTwo()
	if err != api.OK {
		return err
	}
	v, err := m.pop()
	if err != api.OK {
		return err
	}
	return m.words.putByte(a, i, v, m.form)
}

// apply does an operator with one or two operands.
func (m *machine) apply(op, operands int) api.Errno {
	b, err := 0, api.OK
	if operands == 2 {
		if b, err = m.pop(); err != api.OK {
			return err
		}
	}
	a, err := m.pop()
	if err != api.OK {
		return err
	}
	w, err := word.Apply(op, a, b, m.form.Bits)
	if err != api.OK {
		return err
	}
	return m.push(w)
}

func (m *machine) jumpIf(isTrue bool, place int) api.Errno {
	w, err := m.pop()
	if err == api.OK && (w != 0) == isTrue {
		m.place = place
	}
	return err
}

// choose looks through the cases, which follow the switch.
func (m *machine) choose(o api.Op) api.Errno {
	w, err := m.pop()
	if err != api.OK {
		return err
	}
	cases := m.ops[m.place : m.place+o.M]
	m.place = o.N
	for _, c := range cases {
		if c.N == w {
			m.place = c.M
			break
		}
	}
	return api.OK
}
