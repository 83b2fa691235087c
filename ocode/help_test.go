package ocode_test

import (
	"slices"
	"strconv"
	"strings"
	"testing"

	"bluebell/api"
	"bluebell/ocode"
)

// The names of the chapter, in its order, which is that of the numbers.
const (
	modelOps       = "num local putl addrl global putg addrg static puts addrs proc load store getb putb bin un stack label jump true false call enter return back result take switch case"
	modelOperators = "mul div rem add sub shl shr and or xor eqv eq ne lt le gt ge neg not"
)

// ops takes instructions with commas between them; numbers that are left out are 0.
func ops(src string) []api.Op {
	var l []api.Op
	for part := range strings.SplitSeq(src, ",") {
		words := strings.Fields(part)
		o := api.Op{Op: 1 + slices.Index(strings.Fields(modelOps), words[0])}
		if len(words) > 1 {
			o.N = operand(words[1])
		}
		if len(words) > 2 {
			o.M = operand(words[2])
		}
		l = append(l, o)
	}
	return l
}

func operand(s string) int {
	if n, err := strconv.Atoi(s); err == nil {
		return n
	}
	return 1 + slices.Index(strings.Fields(modelOperators), s)
}

// code makes code of instructions, right or wrong, with two areas of one word each.
func code(src string) api.Code {
	return finished(ops(src))
}

func finished(l []api.Op) api.Code {
	c := api.Code{Data: []api.Data{{Words: []int{1}}, {Words: []int{2}}}, Ops: l}
	for _, o := range l {
		switch o.Op {
		case api.OEnter:
			c.Procs = max(c.Procs, o.N)
		case api.OLabel:
			c.Labels = max(c.Labels, o.N)
		}
	}
	return c
}

// body makes code of a procedure with two parameters; the depth is 4 at first.
func body(src string) api.Code {
	return code("enter 1 2, " + src)
}

// checkCode tells what Check finds in code.
func checkCode(t *testing.T, want api.Errno, what string, c api.Code) {
	t.Helper()
	if err := ocode.Check(c); err != want {
		t.Errorf("Check of %.200s: %d; want %d", what, err, want)
	}
}

// checkBodies takes bodies of procedures.
func checkBodies(t *testing.T, want api.Errno, sources ...string) {
	t.Helper()
	for _, src := range sources {
		checkCode(t, want, src, body(src))
	}
}

// checkCodes takes whole code.
func checkCodes(t *testing.T, want api.Errno, sources ...string) {
	t.Helper()
	for _, src := range sources {
		checkCode(t, want, src, code(src))
	}
}

func forms() []api.Form {
	return []api.Form{{Bits: 16, Big: true}, {Bits: 16}, {Bits: 24, Big: true}, {Bits: 24}, {Bits: 32, Big: true}, {Bits: 32}}
}

func wrongForms() []api.Form {
	return []api.Form{{}, {Bits: 8}, {Bits: 17, Big: true}, {Bits: 64}, {Bits: -16}}
}

// repeated returns an instruction so many times.
func repeated(n int, o api.Op) []api.Op {
	return slices.Repeat([]api.Op{o}, n)
}

// labels returns labels in a row with the numbers from 1 on.
func labels(n int) []api.Op {
	var l []api.Op
	for i := range n {
		l = append(l, api.Op{Op: api.OLabel, N: i + 1})
	}
	return l
}

// procs returns so many procedures, each of which does nothing.
func procs(n int) []api.Op {
	var l []api.Op
	for i := range n {
		l = append(l, api.Op{Op: api.OEnter, N: i + 1}, api.Op{Op: api.OBack})
	}
	return l
}

// words returns an area of so many words.
func words(n int) api.Data {
	return api.Data{Words: make([]int, n)}
}

func text(s string) api.Data {
	return api.Data{Text: s, IsText: true}
}

// example is code that has something of each kind.
func example() api.Code {
	c := code("enter 1 2, stack 6, num 3, proc 2, call 4, putl 2, local 2, switch 9 2, case -5 4, case 7 9, label 4, stack 4, addrs 0, load, false 9, num 0, result 7, label 7, take 4, return, label 9, stack 4, back, " +
		"enter 2 1, local 2, un not, num 2, bin shl, return")
	c.Name = "an example"
	c.Data = []api.Data{text("a*\n\"b\""), {Words: []int{-1, 5, 2147483647}}, text("")}
	c.Globals = []api.Entry{{Global: 1, Proc: 1}, {Global: 199, Proc: 2}, {Global: 50, Proc: 1}}
	return c
}

// entries takes a global and a procedure of each entry.
func entries(numbers ...int) []api.Entry {
	var l []api.Entry
	for pair := range slices.Chunk(numbers, 2) {
		l = append(l, api.Entry{Global: pair[0], Proc: pair[1]})
	}
	return l
}
