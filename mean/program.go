package mean

import (
	"bluebell/api"
	"bluebell/parse"
	"bluebell/scope"
)

const start = "start"

// program is what the names of a section are.
type program struct {
	form             api.Form
	tops             []scope.Top
	constants        map[string]int
	cells            map[string]*object    // of statics, and of globals
	procs            map[string]*procedure // also given ones; they go before cells, since a global may be a procedure
	hasNarrowStatics bool
}

// newProgram returns a section that passes scope, ready to be run once: it has the cells of the run.
func newProgram(s api.Section, f api.Form) (*program, api.Errno) {
	tops, err := scope.Tops(s)
	if err != api.OK {
		return nil, err
	}
	p := &program{f, tops, map[string]int{}, map[string]*object{}, givenProcedures(), true}
	for _, d := range s.Decls {
		p.declare(d)
	}
	for _, d := range s.Decls {
		if d.Op == api.DProc {
			p.define(d)
		}
	}
	return p, api.OK
}

// declare makes the names of a declaration known.
func (p *program) declare(d api.Node) {
	switch d.Op {
	case api.DManifest:
		for _, c := range d.L {
			p.constants[c.S] = p.eval(c.L[0])
		}
	case api.DStatic:
		for _, c := range d.L {
			v := p.eval(c.L[0])
			p.hasNarrowStatics = p.hasNarrowStatics && isNarrow(v)
			p.cells[c.S] = newLocal(normed(v, p.form))
		}
	case api.DGlobal:
		for _, c := range d.L {
			p.cells[c.S] = newLocal(nil)
		}
	case api.DProc:
		p.procs[d.S] = &procedure{name: d.S, params: len(d.L) - 1}
	}
}

// eval returns a constant, which scope takes where it stands.
func (p *program) eval(n api.Node) int {
	v, _ := scope.Eval(n, p.tops)
	return v
}

// call is a call of a procedure of the section that goes on.
type call struct {
	*run
	locals []*object // by their slots; nil: it is not there
	result value     // what a CResult gives to its valof
}

// define tells what a procedure of the section does.
func (p *program) define(d api.Node) {
	b := builder{program: p}
	last := len(d.L) - 1
	for _, param := range d.L[:last] {
		b.know(param.S)
	}
	body := b.body(d.L[last], d.N == 1)
	words := 2 + last + p.wordsOf(d.L[last]) + 10*parse.Levels(d)
	p.procs[d.S].begin = func(r *run, args []value) value {
		r.enter(d.S, words)
		c := &call{run: r, locals: make([]*object, b.slots)}
		for i, arg := range args {
			c.locals[i] = newLocal(arg)
		}
		v := body(c)
		c.end(0, len(args))
		r.leave(words)
		return v
	}
}

// wordsOf returns the words of a call that the locals in a tree take.
func (p *program) wordsOf(n api.Node) int {
	words := 0
	switch n.Op {
	case api.CLet:
		words = n.N
	case api.CVec:
		words = p.eval(n.L[0]) + 2
	case api.CFor:
		words = 2
	}
	for _, part := range n.L {
		words += p.wordsOf(part)
	}
	return words
}

// end ends the locals from one slot up to another one, as far as they are there.
func (c *call) end(from, to int) {
	for i := from; i < to; i++ {
		if c.locals[i] != nil {
			c.locals[i].end()
			c.locals[i] = nil
		}
	}
}
