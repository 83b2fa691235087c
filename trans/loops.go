package trans

import "bluebell/api"

// loop puts a loop.
func (w *writer) loop(n api.Node) {
	switch n.Op {
	case api.CWhile:
		w.guardedLoop(n, api.OFalse)
	case api.CUntil:
		w.guardedLoop(n, api.OTrue)
	case api.CRepeat:
		w.endless(n)
	case api.CRepWh:
		w.repeated(n, api.OTrue)
	case api.CRepUn:
		w.repeated(n, api.OFalse)
	case api.CFor:
		w.counting(n)
	}
}

// body puts the command of a loop, out of which CLoop and CBreak lead.
func (w *writer) body(command api.Node, next, out int) {
	w.enter(lead{api.CLoop, next}, lead{api.CBreak, out})
	w.command(command)
	w.leave(2)
}

// guardedLoop puts a loop with its condition before the command, by a jump out of it.
func (w *writer) guardedLoop(n api.Node, jump int) {
	next, out := w.newLabel(), w.newLabel()
	w.lab(next, w.depth)
	w.expression(n.L[0])
	w.put(jump, out)
	w.body(n.L[1], next, out)
	w.put(api.OJump, next)
	w.lab(out, w.depth)
}

func (w *writer) endless(n api.Node) {
	next, out := w.newLabel(), w.newLabel()
	w.lab(next, w.depth)
	w.body(n.L[0], next, out)
	w.put(api.OJump, next)
	w.lab(out, w.depth)
}

// repeated puts a loop with its condition behind the command, by a jump back to it.
func (w *writer) repeated(n api.Node, jump int) {
	again, out, next := w.newLabel(), w.newLabel(), w.newLabel()
	w.lab(again, w.depth)
	w.body(n.L[0], next, out)
	w.lab(next, w.depth)
	w.expression(n.L[1])
	w.put(jump, again)
	w.lab(out, w.depth)
}

// counting puts a CFor. Its count and its bound are two locals; the jump ahead makes it end at once where there is nothing to do.
func (w *writer) counting(n api.Node) {
	count := w.depth
	w.expressions(n.L[:2])
	again, next, test, out := w.newLabel(), w.newLabel(), w.newLabel(), w.newLabel()
	by, inside := w.stepOf(n)
	w.put(api.OJump, test)
	w.lab(again, w.depth)
	w.locals.know(n.S, count)
	w.body(n.L[len(n.L)-1], next, out)
	w.locals.forget(len(w.locals) - 1)
	w.lab(next, w.depth)
	w.put(api.OLocal, count)
	w.put(api.ONum, by)
	w.put(api.OBin, api.Add)
	w.put(api.OPutL, count)
	w.lab(test, w.depth)
	w.put(api.OLocal, count)
	w.put(api.OLocal, count+1)
	w.put(api.OBin, inside)
	w.put(api.OTrue, again)
	w.lab(out, count)
}

// stepOf returns by how much a CFor counts, and how its count is to the bound while it goes on.
func (w *writer) stepOf(n api.Node) (by, inside int) {
	if n.N == 0 {
		return 1, api.Le
	}
	if by = w.value(n.L[2]); by < 0 {
		return by, api.Ge
	}
	return by, api.Le
}
