package mean

import (
	"bluebell/api"
	"bluebell/word"
)

const longest = 4 // bytes of the longest words

// object is what has cells.
type object struct {
	cells  []value
	single [1]value // the cell of an object with one cell: most objects are such, and are made often
	vector *object  // of the local of a CVec: it ends with the local
	isLent bool     // it is what getvec gave
	isText bool     // it is a string
	length int      // of the string
	words  int      // how many cells have a value as a word
	isByte bool     // at least one cell is one of bytes
	ended  bool
}

// packed is what a cell of bytes has.
type packed struct {
	bytes     [longest]byte
	isWritten [longest]bool
}

// newLocal returns an object with one cell.
func newLocal(v value) *object {
	o := &object{single: [1]value{v}, words: weight(v)}
	o.cells = o.single[:]
	return o
}

// newVector returns an object whose cells have nothing.
func newVector(cells int) *object {
	return &object{cells: make([]value, cells)}
}

// newTable returns an object whose cells have numbers.
func newTable(numbers []number) *object {
	o := newVector(len(numbers))
	for i, n := range numbers {
		o.cells[i] = n
	}
	o.words = len(numbers)
	return o
}

// newText returns the object of a string.
func newText(s string, f api.Form) *object {
	words, _ := word.Pack(s, f)
	bytes, _ := word.Bytes(words, f)
	o := newVector(len(words))
	o.isText, o.length, o.isByte = true, len(s), true
	for at := range words {
		p := &packed{}
		for i := range f.Bits / 8 {
			p.put(i, bytes[at*f.Bits/8+i])
		}
		o.cells[at] = p
	}
	return o
}

func (o *object) end() {
	o.ended = true
	if o.vector != nil {
		o.vector.ended = true
	}
}

func (p *packed) put(i int, b byte) {
	p.bytes[i], p.isWritten[i] = b, true
}

// weight is what a cell with a value adds to the words of its object.
func weight(v value) int {
	if v == nil {
		return 0
	}
	return 1
}

// load returns what a cell has as a word.
func (r *run) load(a address) value {
	r.checkWord(a)
	return a.of.cells[a.at]
}

// store gives a cell a value as a word.
func (r *run) store(a address, v value) {
	r.checkWord(a)
	o := a.of
	o.words += weight(v) - weight(o.cells[a.at])
	o.cells[a.at] = v
}

// checkWord takes an address with which a word is used.
func (r *run) checkWord(a address) {
	if !a.isThere() {
		panic(wild())
	}
	o := a.of
	if !o.isByte {
		return
	}
	if _, ok := o.cells[a.at].(*packed); ok {
		panic(wild())
	}
	r.keep(!r.hasBytesByMore(a))
}

// byteAt finds the byte i behind an address: the address of its cell, and which byte it is there.
func (r *run) byteAt(v, index value) (address, int) {
	a, i := addressOf(v), int(numberOf(index))
	nth := (i%r.size + r.size) % r.size
	cell := address{a.of, a.at + (i-nth)/r.size}
	if !cell.isThere() {
		panic(wild())
	}
	r.keepByte(a, i)
	return cell, nth
}

// loadByte returns a byte, which has to be one that was written.
func (r *run) loadByte(v, index value) value {
	cell, nth := r.byteAt(v, index)
	p, ok := cell.of.cells[cell.at].(*packed)
	if !ok || !p.isWritten[nth] {
		panic(wild())
	}
	return number(p.bytes[nth])
}

// storeByte writes the lowest bits of a number.
func (r *run) storeByte(v, index, written value) {
	cell, nth := r.byteAt(v, index)
	b := byte(numberOf(written))
	o := cell.of
	if o.cells[cell.at] == nil {
		o.cells[cell.at] = &packed{}
		o.isByte = true
	}
	p, ok := o.cells[cell.at].(*packed)
	if !ok {
		panic(wild())
	}
	p.put(nth, b)
}

// field tells which bits of a word a selector means.
type field struct {
	size, shift int
	offset      number
}

// loadField returns the bits of the word behind an address.
func (r *run) loadField(x field, v value) value {
	old := int(numberOf(r.load(addressOf(v).plus(x.offset))))
	r.keep(isUnsigned(old)) // so are its bits, then
	bits, _ := word.Apply(api.Shr, old, x.shift, r.form.Bits)
	if x.size > 0 {
		bits, _ = word.Apply(api.And, bits, 1<<x.size-1, r.form.Bits)
	}
	return number(bits)
}

// storeField changes the bits of the word behind an address.
func (r *run) storeField(x field, v, bits value) {
	a := addressOf(v).plus(x.offset)
	old, n := int(numberOf(r.load(a))), int(numberOf(bits))
	mask := -1
	if x.size > 0 {
		mask = 1<<x.size - 1
	}
	changed := normed(old&^(mask<<x.shift)|n&mask<<x.shift, r.form)
	r.keep(isUnsigned(old) && isUnsigned(int(changed)))
	if x.size == 0 {
		r.keep(isUnsigned(n << x.shift))
	}
	r.store(a, changed)
}
