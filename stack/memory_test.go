package stack_test

import (
	"maps"
	"testing"

	"bluebell/api"
)

// checkMemory compares all words; those that are not told are 0.
func checkMemory(t *testing.T, what string, at func(a int) (int, api.Errno), want map[int]int) {
	t.Helper()
	for a := range api.MemSize {
		if w, err := at(a); w != want[a] || err != api.OK {
			t.Errorf("%s: the word at %d is %d, %d; want %d", what, a, w, err, want[a])
		}
	}
}

func givenWords() map[int]int {
	l := map[int]int{}
	for g := rdch; g <= deleteco; g++ {
		l[g] = api.MemSize + 500 + g
	}
	return l
}

func TestMemoryAtFirst(t *testing.T) {
	c := code("enter 1 2, num 1, return, enter 2, back, enter 3, back")
	c.Globals = []api.Entry{{Global: api.GlobalSize - 1, Proc: 3}, {Global: 1, Proc: 2}, {Global: wrch, Proc: 1}, {Global: 12, Proc: 3}}
	c.Data = append(c.Data, text(""), words(-32769, 1<<23, -1<<31, 1<<31-1))
	texts := map[api.Form][]int{ // from 204 on
		{Bits: 16, Big: true}: {0x0361, 0x6263, 0, 32767, 0, 0, -1},
		{Bits: 16}:            {0x6103, 0x6362, 0, 32767, 0, 0, -1},
		{Bits: 24, Big: true}: {0x036162, 0x630000, 0, -32769, -1 << 23, 0, -1},
		{Bits: 24}:            {0x626103, 0x63, 0, -32769, -1 << 23, 0, -1},
		{Bits: 32, Big: true}: {0x03616263, 0, -32769, 1 << 23, -1 << 31, 1<<31 - 1},
		{Bits: 32}:            {0x63626103, 0, -32769, 1 << 23, -1 << 31, 1<<31 - 1},
	}
	for _, f := range forms() {
		want := givenWords()
		maps.Copy(want, map[int]int{1: api.MemSize + 2, wrch: api.MemSize + 1, 12: api.MemSize + 3, api.GlobalSize - 1: api.MemSize + 3, 200: 1, 201: -2, 202: 70000, 203: 3})
		if f.Bits == 16 {
			want[202] = 70000 - 65536
		}
		for i, w := range texts[f] {
			want[204+i] = w
		}
		m := newMachine(t, c, f, "")
		checkMemory(t, "at first", m.Peek, want)
		want[base], want[base+1] = base, -1 // the link of the first call
		m.Step(1)
		checkMemory(t, "behind the first call", m.Peek, want)
	}
}

func TestMemoryOfNoCode(t *testing.T) {
	m := newMachine(t, api.Code{}, form16, "")
	checkMemory(t, "no code", m.Peek, givenWords())
	m.Step(1)
	checkMemory(t, "a first call that faults", m.Peek, givenWords())
}

// The areas may take all words up to the stack.
func TestMemoryIsFull(t *testing.T) {
	c := code("enter 1, static 0, addrs 0, back")
	c.Data = []api.Data{words(make([]int, api.StaticSize)...)}
	c.Data[0].Words[0], c.Data[0].Words[api.StaticSize-1] = 7, 8
	m := newMachine(t, c, form16, "")
	want := givenWords()
	maps.Copy(want, map[int]int{1: api.MemSize + 1, api.GlobalSize: 7, api.StackBase - 1: 8})
	checkMemory(t, "areas up to the stack", m.Peek, want)
}

// The heap is not taken into what memory is at first, and code's areas are read by their length.
func TestCodeIsNotKept(t *testing.T) {
	c := code("enter 1, static 0, putg 30, num 5, putg 31, back")
	m := newMachine(t, c, form16, "")
	for i := range c.Ops {
		c.Ops[i] = api.Op{Op: api.OJump, N: 99}
	}
	c.Data[0].Words[0] = 99
	c.Globals[0] = api.Entry{}
	if r := m.Step(enough); r.End != api.Done || peek(t, m, 30) != 1 || peek(t, m, 31) != 5 {
		t.Errorf("the code was changed: %v, %d, %d", r, peek(t, m, 30), peek(t, m, 31))
	}
}
