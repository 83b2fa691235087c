package stack_test

import (
	"fmt"
	"slices"
	"strconv"
	"strings"
	"testing"

	"bluebell/api"
	"bluebell/ocode"
	"bluebell/stack"
	"bluebell/trans"
)

// The names of layer 6, in the order of their numbers.
const (
	opNames       = "num local putl addrl global putg addrg static puts addrs proc load store getb putb bin un stack label jump true false call enter return back result take switch case"
	operatorNames = "mul div rem add sub shl shr and or xor eqv eq ne lt le gt ge neg not"
)

// The globals of the given procedures, as layer 4 numbers them.
const (
	rdch = 2 + iota
	wrch
	stop
	getvec
	freevec
	muldiv
	createco
	callco
	cowait
	deleteco
)

const (
	base   = api.StackBase
	enough = 100000 // fuel for all but endless runs
)

// ops takes instructions with commas between them; numbers that are left out are 0. An instruction may have a name in front, with a colon: @ and this name is its place.
func ops(src string) []api.Op {
	var parts []string
	places := map[string]int{}
	for part := range strings.SplitSeq(src, ",") {
		if name, rest, ok := strings.Cut(part, ":"); ok {
			places[strings.TrimSpace(name)] = len(parts)
			part = rest
		}
		if strings.TrimSpace(part) != "" {
			parts = append(parts, part)
		}
	}
	var l []api.Op
	for _, part := range parts {
		words := append(strings.Fields(part), "0", "0")
		l = append(l, api.Op{
			Op: 1 + slices.Index(strings.Fields(opNames), words[0]),
			N:  operand(words[1], places),
			M:  operand(words[2], places),
		})
	}
	return l
}

func operand(s string, places map[string]int) int {
	if n, err := strconv.Atoi(s); err == nil {
		return n
	}
	if name, ok := strings.CutPrefix(s, "@"); ok {
		return places[name]
	}
	return 1 + slices.Index(strings.Fields(operatorNames), s)
}

// code makes code of instructions, with some areas; the global 1 is the procedure 1.
func code(src string) api.Code {
	return finished(ops(src))
}

func finished(l []api.Op) api.Code {
	c := api.Code{Data: []api.Data{words(1), words(-2, 70000, 3), text("abc")}, Ops: l, Globals: []api.Entry{{Global: 1, Proc: 1}}}
	for _, o := range l {
		switch o.Op {
		case api.OEnter:
			c.Procs = max(c.Procs, o.N)
		case api.OLabel:
			c.Labels = max(c.Labels, o.N)
		}
	}
	return c
}

func words(l ...int) api.Data {
	return api.Data{Words: l}
}

func text(s string) api.Data {
	return api.Data{Text: s, IsText: true}
}

func compiled(t testing.TB, src string) api.Code {
	t.Helper()
	c, err, at := trans.Compile(src)
	if err != api.OK {
		t.Fatalf("Compile(%.400q): %d at %d", src, err, at)
	}
	return c
}

func forms() []api.Form {
	return []api.Form{{Bits: 16, Big: true}, {Bits: 16}, {Bits: 24, Big: true}, {Bits: 24}, {Bits: 32, Big: true}, {Bits: 32}}
}

func wrongForms() []api.Form {
	return []api.Form{{}, {Bits: 8}, {Bits: 17, Big: true}, {Bits: 64}, {Bits: -16}}
}

// form16 is the one of tests that do not hang on it.
var form16 = api.Form{Bits: 16}

func newMachine(t testing.TB, c api.Code, f api.Form, input string) *stack.Machine {
	t.Helper()
	m, err := stack.New(c, f, input)
	if err != api.OK || m == nil {
		t.Fatalf("New: %d (ocode.Check: %d) for %s", err, ocode.Check(c), written(c.Ops))
	}
	return m
}

// written writes instructions as ops takes them.
func written(l []api.Op) string {
	var parts []string
	for i, o := range l[:min(len(l), 500)] {
		parts = append(parts, fmt.Sprint(i, ": ", strings.Fields(opNames)[o.Op-1], " ", o.N, " ", o.M))
	}
	return strings.Join(parts, ", ")
}

func peek(t testing.TB, m *stack.Machine, a int) int {
	t.Helper()
	w, err := m.Peek(a)
	if err != api.OK {
		t.Fatalf("Peek(%d): %d", a, err)
	}
	return w
}

// result is what is left of a result where steps do not matter.
func result(r api.Result) api.Result {
	r.Steps = 0
	return r
}

// told writes a result in short.
func told(r api.Result) string {
	return fmt.Sprintf("%.60q (%d bytes), end %d, code %d, why %d, %d steps", r.Out, len(r.Out), r.End, r.Code, r.Why, r.Steps)
}

// checkRun runs code by all forms, and compares all but the steps.
func checkRun(t *testing.T, what string, c api.Code, input string, want api.Result) {
	t.Helper()
	for _, f := range forms() {
		if r, err := stack.Run(c, f, input, enough); result(r) != want || err != api.OK {
			t.Errorf("%.300s by %v: %s, %d; want %s", what, f, told(r), err, told(want))
		}
	}
}

// checkFaults takes code that ends with a fault, by all forms.
func checkFaults(t *testing.T, why api.Errno, sources ...string) {
	t.Helper()
	for _, src := range sources {
		checkRun(t, src, code(src), "", api.Result{End: api.Fault, Why: why})
	}
}

// checkFaultsBy is checkFaults by one form.
func checkFaultsBy(t *testing.T, f api.Form, why api.Errno, sources ...string) {
	t.Helper()
	for _, src := range sources {
		if r, err := stack.Run(code(src), f, "", enough); result(r) != (api.Result{End: api.Fault, Why: why}) || err != api.OK {
			t.Errorf("%.300s by %v: %s, %d; want a fault with %d", src, f, told(r), err, why)
		}
	}
}

// checkSources takes lines with a source, and what it writes until it is done; or an error's name, and then what it wrote.
func checkSources(t *testing.T, rest, lines string) {
	t.Helper()
	faults := map[string]api.Errno{"ErrZero": api.ErrZero, "ErrAddress": api.ErrAddress, "ErrCall": api.ErrCall, "ErrRoom": api.ErrRoom, "ErrState": api.ErrState}
	for line := range strings.Lines(lines) {
		src, want, ok := strings.Cut(line, "=>")
		if !ok {
			continue
		}
		first, behind, _ := strings.Cut(strings.TrimSpace(want), " ")
		r := api.Result{Out: strings.TrimSpace(want)}
		if why, ok := faults[first]; ok {
			r = api.Result{Out: behind, End: api.Fault, Why: why}
		}
		src = strings.TrimSpace(src) + rest
		checkRun(t, src, compiled(t, src), "", r)
	}
}

// writer is a procedure that writes a number, with a sign behind it.
const writer = " let w(n) be { if n < 0 do { wrch('-') ; n := - n } ; d(n) ; wrch('.') } let d(n) be { if n > 9 do d(n / 10) ; wrch('0' + n rem 10) }"

// checkTops takes lines with the body of a procedure, whose depth is 2 at first, and the words that it has pushed then, by a form.
func checkTops(t *testing.T, f api.Form, lines string) {
	t.Helper()
	for line := range strings.Lines(lines) {
		src, want, ok := strings.Cut(line, "=>")
		if !ok {
			continue
		}
		l := ops("enter 1, " + src)
		end := len(l)
		c := finished(append(l, ops("back, enter 2 3, local 3, return")...))
		m := newMachine(t, c, f, "xy")
		if _, err := m.Until([]int{end}, enough); err != api.OK || m.State().Place != end {
			t.Errorf("%s by %v: Until: %d; %v, %v", src, f, err, m.State(), m.Step(0))
			continue
		}
		var got []string
		s := m.State()
		for a := s.Frame + 2; a < s.Frame+s.Depth; a++ {
			got = append(got, strconv.Itoa(peek(t, m, a)))
		}
		if !slices.Equal(got, strings.Fields(want)) || s.Frame != base || s.Proc != 1 {
			t.Errorf("%s by %v: %v, %v; want %s", src, f, got, s, want)
		}
	}
}

// checkAllTops is checkTops by all forms.
func checkAllTops(t *testing.T, lines string) {
	t.Helper()
	for _, f := range forms() {
		checkTops(t, f, lines)
	}
}
