package stack

import (
	"bluebell/api"
	"bluebell/ocode"
	"bluebell/word"
)

const (
	procBase  = api.MemSize       // the procedure p is the word procBase + p
	givenBase = api.MemSize + 500 // the given procedure of the global g is the word givenBase + g
)

// memory is all that a program reaches by addresses. A machine and its parts share one of them.
type memory [api.MemSize]int

// fill lays a program into memory that is empty.
func (m *memory) fill(c api.Code, p *program) {
	for i := range givenProcedures() {
		m[firstGiven+i] = givenBase + firstGiven + i
	}
	for _, e := range c.Globals {
		m[e.Global] = procBase + e.Proc
	}
	for i, d := range c.Data {
		words, _ := ocode.Words(d, p.form) // the form is valid, and Check lets no text be too long
		copy(m[p.areas[i]:], words)
	}
}

func (m *memory) load(a int) (int, api.Errno) {
	if a < 0 || a >= api.MemSize {
		return 0, api.ErrAddress
	}
	return m[a], api.OK
}

func (m *memory) store(a, v int) api.Errno {
	if a < 0 || a >= api.MemSize {
		return api.ErrAddress
	}
	m[a] = v
	return api.OK
}

// getByte returns the byte i of the words from an address on; i may be below 0.
func (m *memory) getByte(a, i int, f api.Form) (int, api.Errno) {
	above, i := byteOf(i, f)
	w, err := m.load(a + above)
	if err != api.OK {
		return 0, err
	}
	return word.GetByte([]int{w}, i, f)
}

// putByte changes one byte to the lowest eight bits of v.
func (m *memory) putByte(a, i, v int, f api.Form) api.Errno {
	above, i := byteOf(i, f)
	w, err := m.load(a + above)
	if err != api.OK {
		return err
	}
	words, err := word.PutByte([]int{w}, i, v, f)
	if err != api.OK {
		return err
	}
	return m.store(a+above, words[0])
}

// byteOf returns how many words above an address the byte i of it lies, and which byte of its word it is.
func byteOf(i int, f api.Form) (above, rest int) {
	n := f.Bits / 8
	above, rest = i/n, i%n
	if rest < 0 { // Go rounds toward 0
		above--
		rest += n
	}
	return above, rest
}
