package stack

import (
	"slices"

	"bluebell/api"
	"bluebell/ocode"
	"bluebell/word"
)

// program is what a run needs of code. Instructions have the numbers by which the machine works: words, addresses, and places of labels.
type program struct {
	form   api.Form
	areas  []int // their addresses
	ops    []api.Op
	procAt []int // the procedure of each place
	enters []int // the place of the OEnter of each procedure, from 1 on
	room   []int // of each procedure, from 1 on
}

// newProgram returns Check's error, ErrForm or ErrLimit in this order, as Layout tells them.
func newProgram(c api.Code, f api.Form) (*program, api.Errno) {
	areas, _, err := ocode.Layout(c, f)
	if err != api.OK {
		return nil, err
	}
	room, _ := ocode.Room(c) // its error is Check's
	p := &program{
		form:   f,
		areas:  areas,
		ops:    slices.Clone(c.Ops),
		procAt: make([]int, len(c.Ops)),
		enters: make([]int, 1+c.Procs),
		room:   slices.Insert(room, 0, 0),
	}
	labels := make([]int, 1+c.Labels)
	proc := 0
	for i, o := range c.Ops {
		switch o.Op {
		case api.OEnter:
			proc = o.N
			p.enters[proc] = i
		case api.OLabel:
			labels[o.N] = i
		}
		p.procAt[i] = proc
	}
	for i, o := range p.ops {
		p.ops[i] = p.settled(o, labels)
	}
	return p, api.OK
}

// settled returns an instruction with other numbers: what they are does not change in a run.
func (p *program) settled(o api.Op, labels []int) api.Op {
	switch o.Op {
	case api.ONum:
		o.N = p.norm(o.N)
	case api.OStatic, api.OPutS, api.OAddrS:
		o.N = p.areas[o.N]
	case api.OProc:
		o.N = procBase + o.N
	case api.OJump, api.OTrue, api.OFalse, api.OResult, api.OSwitch:
		o.N = labels[o.N]
	case api.OCase:
		o.N, o.M = p.norm(o.N), labels[o.M]
	}
	return o
}

func (p *program) norm(n int) int {
	w, _ := word.Norm(n, p.form.Bits) // the form is valid
	return w
}

// procedure returns the number of the procedure that a word is.
func (p *program) procedure(w int) (int, bool) {
	n := w - procBase
	return n, n >= 1 && n < len(p.enters)
}
