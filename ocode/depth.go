package ocode

import "bluebell/api"

const linkSize = 2 // locals of a frame before the first parameter: below them no depth falls

// depthsOf returns the depth before each instruction. It is not ok if depths do not agree.
func depthsOf(l []api.Op) ([]int, bool) {
	depths := make([]int, len(l))
	d := 0
	labelled := false
	for i, o := range l {
		if o.Op == api.OEnter {
			d = 0
		}
		depths[i] = d
		if !finds(o, d) || o.Op == api.OStack && !labelled && o.N > d+api.MaxVec+2 {
			return nil, false
		}
		d = after(o, d)
		if !within(d, linkSize, mostDepth) {
			return nil, false
		}
		labelled = o.Op == api.OLabel
	}
	return depths, true
}

// finds reports whether an instruction finds at a depth what it takes, and the local that it names.
func finds(o api.Op, d int) bool {
	switch o.Op {
	case api.OLocal, api.OPutL:
		return within(o.N, linkSize, d-1)
	case api.OAddrL:
		return o.N >= linkSize
	case api.OCall:
		return within(o.N, linkSize, d-3) // above it: the two of the new link, and the procedure
	}
	words := taken(o.Op)
	return words == 0 || d-words >= linkSize
}

// after returns the depth behind an instruction.
func after(o api.Op, d int) int {
	switch o.Op {
	case api.OEnter:
		return linkSize + o.M
	case api.OStack:
		return o.N
	case api.OCall, api.OTake:
		return o.N + 1
	}
	return d - taken(o.Op) + pushed(o.Op)
}

// taken returns how many words an instruction takes, but for those that set the depth.
func taken(op int) int {
	words := 0
	switch op {
	case api.OPutB:
		words++
		fallthrough
	case api.OStore, api.OGetB, api.OBin:
		words++
		fallthrough
	case api.OPutL, api.OPutG, api.OPutS, api.OLoad, api.OUn, api.OTrue, api.OFalse, api.OSwitch, api.OReturn, api.OResult:
		words++
	}
	return words
}

// pushed returns how many words an instruction pushes, but for those that set the depth.
func pushed(op int) int {
	switch op {
	case api.ONum, api.OLocal, api.OAddrL, api.OGlobal, api.OAddrG, api.OStatic, api.OAddrS, api.OProc, api.OLoad, api.OGetB, api.OBin, api.OUn:
		return 1
	}
	return 0
}
