package trans

import (
	"bluebell/api"
	"bluebell/scope"
)

// writer puts the code of a section's parts behind the code so far.
type writer struct {
	around
	code   api.Code
	depth  int // of the frame, behind the last instruction
	tops   []scope.Top
	locals names // with the locals that they are
	labels names // of goto, with the labels that they are
}

// put puts an instruction that has no M.
func (w *writer) put(op, n int) {
	w.add(api.Op{Op: op, N: n})
}

// add puts an instruction. The depth goes on as if it were run, in dead code, too.
func (w *writer) add(o api.Op) {
	w.code.Ops = append(w.code.Ops, o)
	w.depth = behind(o, w.depth)
}

// behind returns the depth behind an instruction.
func behind(o api.Op, depth int) int {
	switch o.Op {
	case api.OEnter:
		return linkSize + o.M
	case api.ONum, api.OLocal, api.OAddrL, api.OGlobal, api.OAddrG, api.OStatic, api.OAddrS, api.OProc:
		return depth + 1
	case api.OPutL, api.OPutG, api.OPutS, api.OGetB, api.OBin, api.OTrue, api.OFalse, api.OSwitch, api.OReturn, api.OResult:
		return depth - 1
	case api.OStore:
		return depth - 2
	case api.OPutB:
		return depth - 3
	case api.OStack:
		return o.N
	case api.OCall, api.OTake:
		return o.N + 1
	}
	return depth
}

// newLabel returns the next number of a label.
func (w *writer) newLabel() int {
	w.code.Labels++
	return w.code.Labels
}

// lab puts a label that is come to with a depth.
func (w *writer) lab(label, depth int) {
	w.put(api.OLabel, label)
	w.put(api.OStack, depth)
}

// area makes a new area, and returns its number.
func (w *writer) area(d api.Data) int {
	w.code.Data = append(w.code.Data, d)
	return len(w.code.Data) - 1
}

// value returns the value of an expression that scope.Check has found to be constant.
func (w *writer) value(n api.Node) int {
	value, _ := scope.Eval(n, w.tops)
	return value
}
