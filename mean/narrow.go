package mean

import "math"

// isNarrow reports whether a number is a word of every length.
func isNarrow(v int) bool {
	return math.MinInt16 <= v && v <= math.MaxInt16
}

// isUnsigned reports whether a number is a word of every length whose bits above are 0.
func isUnsigned(v int) bool {
	return 0 <= v && v <= math.MaxInt16
}

// keep notes that a run is not narrow where something does not hold.
func (r *run) keep(holds bool) {
	r.narrow = r.narrow && holds
}

// keepBeginning takes an address that is compared: how many cells a string has hangs on the form.
func (r *run) keepBeginning(a address) {
	r.keep(!a.of.isText || a.at == 0)
}

// keepByte takes the byte i behind an address, which is in the same object by all forms if it is counted from the beginning.
func (r *run) keepByte(a address, i int) {
	o := a.of
	r.keep(a.at == 0 && (o.isText && i <= o.length || !o.isText && o.words == 0))
}

// hasBytesByMore reports whether a cell that is used as a word would be one of bytes by longer words: they have the same bytes in fewer cells.
func (r *run) hasBytesByMore(a address) bool {
	for size := r.size + 1; size <= longest; size++ {
		for i := a.at * size; i < (a.at+1)*size; i++ {
			if a.of.hasByte(i/r.size, i%r.size) {
				return true
			}
		}
	}
	return false
}

// hasByte reports whether a byte was written.
func (o *object) hasByte(at, nth int) bool {
	if at >= len(o.cells) {
		return false
	}
	p, ok := o.cells[at].(*packed)
	return ok && p.isWritten[nth]
}
