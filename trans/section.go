package trans

import (
	"bluebell/api"
	"bluebell/scope"
)

const linkSize = 2 // locals of a frame before the first parameter

// codeOf returns the code of a section that scope.Check passes.
func codeOf(s api.Section, tops []scope.Top) api.Code {
	w := writer{tops: tops}
	w.code.Name = s.Name
	for _, d := range s.Decls {
		if d.Op == api.DStatic {
			w.statics(d.L)
		}
	}
	for _, d := range s.Decls {
		if d.Op == api.DProc {
			w.procedure(d)
		}
	}
	w.code.Globals = entries(tops)
	return w.code
}

// statics makes an area of each static. They are the first areas, so that their numbers are those of their names.
func (w *writer) statics(l []api.Node) {
	for _, d := range l {
		w.area(api.Data{Words: []int{w.value(d.L[0])}})
	}
}

// entries returns those of the procedures that are globals.
func entries(tops []scope.Top) []api.Entry {
	var l []api.Entry
	for _, t := range tops {
		if t.Kind == scope.Proc && t.Global != 0 {
			l = append(l, api.Entry{Global: t.Global, Proc: t.N})
		}
	}
	return l
}

// procedure puts the code of a whole procedure.
func (w *writer) procedure(p api.Node) {
	params, body := p.L[:len(p.L)-1], p.L[len(p.L)-1]
	w.code.Procs++
	w.add(api.Op{Op: api.OEnter, N: w.code.Procs, M: len(params)})
	w.locals = nil
	for i, param := range params {
		w.locals.know(param.S, linkSize+i)
	}
	if p.N == 0 {
		w.expression(body)
		w.put(api.OReturn, 0)
		return
	}
	w.command(body)
	w.put(api.OBack, 0)
}
