package trans

import (
	"bluebell/api"
	"bluebell/scope"
)

// expression puts the code that pushes the value of an expression.
func (w *writer) expression(n api.Node) {
	switch n.Op {
	case api.ENum, api.ETrue, api.EFalse, api.ESlct:
		w.put(api.ONum, w.value(n))
	case api.EAny:
		w.put(api.ONum, 0)
	case api.EName:
		w.name(n.S)
	case api.EStr:
		w.put(api.OAddrS, w.area(api.Data{Text: n.S, IsText: true}))
	case api.ETable:
		w.table(n)
	case api.ECall:
		w.call(n)
	case api.ESub, api.ELoad:
		w.address(n)
		w.put(api.OLoad, 0)
	case api.EByte:
		w.expressions(n.L)
		w.put(api.OGetB, 0)
	case api.EBin:
		w.expressions(n.L)
		w.put(api.OBin, n.N)
	case api.EUn:
		w.expressions(n.L)
		w.put(api.OUn, n.N)
	case api.EAddr:
		w.address(n.L[0])
	case api.ECond:
		w.conditional(n)
	case api.EValof:
		w.valof(n)
	case api.ESel:
		w.selection(n)
	}
}

func (w *writer) expressions(l []api.Node) {
	for _, n := range l {
		w.expression(n)
	}
}

// name pushes what a name means.
func (w *writer) name(name string) {
	if local, ok := w.locals.find(name); ok {
		w.put(api.OLocal, local)
		return
	}
	switch top, _ := scope.Find(w.tops, name); {
	case top.Kind == scope.Manifest:
		w.put(api.ONum, top.N)
	case top.Kind == scope.Static:
		w.put(api.OStatic, top.N)
	case top.Kind == scope.Global:
		w.put(api.OGlobal, top.N)
	case top.Global != 0:
		w.put(api.OGlobal, top.Global)
	default:
		w.put(api.OProc, top.N)
	}
}

// variable puts one of three instructions, by what cell a name means.
func (w *writer) variable(name string, local, static, global int) {
	if number, ok := w.locals.find(name); ok {
		w.put(local, number)
		return
	}
	top, _ := scope.Find(w.tops, name)
	if top.Kind == scope.Static {
		w.put(static, top.N)
	} else {
		w.put(global, top.N)
	}
}

// address pushes the address of a cell: of a variable, or of an ESub or ELoad.
func (w *writer) address(n api.Node) {
	switch n.Op {
	case api.EName:
		w.variable(n.S, api.OAddrL, api.OAddrS, api.OAddrG)
	case api.ESub:
		w.expressions(n.L)
		w.put(api.OBin, api.Add)
	case api.ELoad:
		w.expression(n.L[0])
	}
}

func (w *writer) table(n api.Node) {
	var words []int
	for _, part := range n.L {
		words = append(words, w.value(part))
	}
	w.put(api.OAddrS, w.area(api.Data{Words: words}))
}

// call puts the procedure behind its arguments, as OCall takes it from the top.
func (w *writer) call(n api.Node) {
	depth := w.depth
	w.put(api.OStack, depth+linkSize)
	w.expressions(n.L[1:])
	w.expression(n.L[0])
	w.put(api.OCall, depth)
}

func (w *writer) conditional(n api.Node) {
	depth := w.depth
	w.expression(n.L[0])
	second, end := w.newLabel(), w.newLabel()
	w.put(api.OFalse, second)
	w.expression(n.L[1])
	w.put(api.OJump, end)
	w.lab(second, depth)
	w.expression(n.L[2])
	w.lab(end, depth+1)
}

func (w *writer) valof(n api.Node) {
	depth := w.depth
	result := w.newLabel()
	w.enter(lead{api.CResult, result})
	w.command(n.L[0])
	w.leave(1)
	w.put(api.ONum, 0)
	w.put(api.OResult, result)
	w.put(api.OLabel, result)
	w.put(api.OTake, depth)
}

// selection pushes the part of a word that a selector tells.
func (w *writer) selection(n api.Node) {
	size, shift := w.selected(n)
	w.put(api.OLoad, 0)
	w.unlessZero(shift, shift, api.Shr)
	w.unlessZero(size, maskOf(size), api.And)
}

// selected pushes the address of the word of which an ESel tells a part.
func (w *writer) selected(n api.Node) (size, shift int) {
	size, shift, offset, _ := scope.Selector(w.value(n.L[0]))
	w.expression(n.L[1])
	w.unlessZero(offset, offset, api.Add)
	return size, shift
}

// unlessZero computes with what is on top and a number, unless a part of a selector is 0.
func (w *writer) unlessZero(part, number, operator int) {
	if part != 0 {
		w.put(api.ONum, number)
		w.put(api.OBin, operator)
	}
}

// maskOf returns a word with so many ones.
func maskOf(size int) int {
	return 1<<size - 1
}
