package trans

import "bluebell/api"

// marks calls a function with each label, case and default among a block's items, in order, also with those behind another one.
func marks(items []api.Node, each func(n api.Node)) {
	for _, n := range items {
		for n.Op == api.CLabel || n.Op == api.CCase || n.Op == api.CDefault {
			each(n)
			n = n.L[len(n.L)-1]
		}
	}
}

// casesOf returns the constants of the cases of a switch, and whether it has a default.
func casesOf(items []api.Node) (constants []api.Node, hasDefault bool) {
	marks(items, func(n api.Node) {
		switch n.Op {
		case api.CCase:
			constants = append(constants, n.L[0])
		case api.CDefault:
			hasDefault = true
		}
	})
	return constants, hasDefault
}

// block puts the items of a block, whose names are known up to its end.
func (w *writer) block(items []api.Node) {
	depth, locals, labels := w.depth, len(w.locals), len(w.labels)
	marks(items, func(n api.Node) {
		if n.Op == api.CLabel {
			w.labels.know(n.S, w.newLabel())
		}
	})
	for _, n := range items {
		w.item(n)
	}
	w.locals.forget(locals)
	w.labels.forget(labels)
	if w.depth != depth {
		w.put(api.OStack, depth)
	}
}

func (w *writer) item(n api.Node) {
	switch n.Op {
	case api.CLet:
		w.let(n)
	case api.CVec:
		w.vector(n)
	default:
		w.command(n)
	}
}

// let pushes the locals. Their names are known behind all of the expressions.
func (w *writer) let(n api.Node) {
	first := w.depth
	w.expressions(n.L[n.N:])
	for i, name := range n.L[:n.N] {
		w.locals.know(name.S, first+i)
	}
}

// vector makes a local that has the address of the one behind it, where the vector's words are.
func (w *writer) vector(n api.Node) {
	local, size := w.depth, w.value(n.L[0])
	w.put(api.OAddrL, local+1)
	w.locals.know(n.S, local)
	w.put(api.OStack, local+size+2)
}
