package trans

import (
	"bluebell/api"
	"bluebell/word"
)

const constantBits = 32 // of the words in which constants are computed

// assign assigns pair by pair.
func (w *writer) assign(n api.Node) {
	for i, left := range n.L[:n.N] {
		w.assignTo(left, n.L[n.N+i])
	}
}

func (w *writer) assignTo(left, right api.Node) {
	switch left.Op {
	case api.EName:
		w.expression(right)
		w.variable(left.S, api.OPutL, api.OPutS, api.OPutG)
	case api.ESub, api.ELoad:
		w.expression(right)
		w.address(left)
		w.put(api.OStore, 0)
	case api.EByte:
		w.expression(right)
		w.expressions(left.L)
		w.put(api.OPutB, 0)
	case api.ESel:
		w.assignToPart(left, right)
	}
}

// assignToPart changes the part of a word that a selector tells. The word's address is a local meanwhile, because it is needed twice more.
func (w *writer) assignToPart(left, right api.Node) {
	address := w.depth
	size, shift := w.selected(left)
	w.expression(right)
	mask := -1
	if size > 0 {
		mask = maskOf(size)
		w.put(api.ONum, mask)
		w.put(api.OBin, api.And)
	}
	w.unlessZero(shift, shift, api.Shl)
	w.put(api.OLocal, address)
	w.put(api.OLoad, 0)
	w.put(api.ONum, others(mask, shift))
	w.put(api.OBin, api.And)
	w.put(api.OBin, api.Or)
	w.put(api.OLocal, address)
	w.put(api.OStore, 0)
	w.put(api.OStack, address)
}

// others returns the ones of a word that do not belong to a part.
func others(mask, shift int) int {
	part, _ := word.Apply(api.Shl, mask, shift, constantBits)
	rest, _ := word.Apply(api.Not, part, 0, constantBits)
	return rest
}
