package stack_test

import (
	"fmt"
	"slices"
	"strings"
	"testing"

	"bluebell/api"
	"bluebell/stack"
)

func TestCoroutines(t *testing.T) {
	checkSources(t, writer, `
		let start() be { let c = createco(f, 100) ; w(callco(c, 4)) ; w(callco(c, 7)) } let f(x) = x + 1 => 5.8.
		let start() be { let c = createco(f, 100) ; w(callco(c, 4)) ; w(callco(c, 7)) ; w(callco(c, 9)) } let f(x) = valof { let y = cowait(x + 1) ; resultis x * 10 + y } => 5.47.10.
		let start() be { let c = createco(f, 100) ; w(callco(c, 1)) ; w(callco(c, 2)) ; w(callco(c, 3)) ; w(callco(c, 4)) } let f(x) be { w(x) ; x := cowait(x * 2) } repeat => 1.2.2.4.3.6.4.8.
		let start() be { let c = createco(f, 100) ; w(callco(c, 1)) ; w(callco(c, 2)) } let f(x) be w(x) => 1.0.2.0.
		let start() be { let c, d = createco(f, 100), createco(f, 100) ; w(callco(c, 1)) ; w(callco(d, 2)) ; w(callco(c, 3)) ; w(callco(d, 4)) } let f(x) = valof { let s = x ; { x := cowait(s) ; s := s + x } repeat } => 1.2.4.6.
		let start() be { let c = createco(f, 300) ; w(callco(c, 3)) ; w(callco(c, 5)) ; w(callco(c, 6)) } let f(x) = x > 0 -> f(x - 1), cowait(99) + 1 => 99.6.99.
		let start() be { let c = createco(f, 100) ; w(callco(c, c)) ; w(callco(c, 5)) } let f(x) = valof { let d = createco(g, 50) ; w(d > x) ; w(callco(d, 7)) ; w(cowait(8)) ; resultis callco(d, 9) } let g(x) = valof { let y = cowait(x + 1) ; resultis y + x } => -1.8.8.5.16.
		let start() be { let c = createco(f, 100, 5) ; w(callco(c, 4, 9)) ; w(deleteco(c, 1)) } let f(x) = cowait(x + 1, 9) => 5.0.
		let start() be { let c = createco(f, 100) ; w(callco(c, 1, 2, 3)) } let f(x, y, z) = x => 1.
		let start() be { let c = createco(f, 100) ; w(callco(c, 1)) ; w(callco(c, 2)) } let f() = 7 => 7.7.
		let start() be { let c = createco(f, 9) ; w(deleteco(c)) ; w(createco(f, 9) - c) } let f(x) = x => 0.10.
		let start() be { let c = createco(f, 99) ; let d = createco(g, 99) ; w(callco(c, d)) ; w(callco(d, 2)) ; w(callco(c, 3)) } let f(x) = valof { let y = callco(x, 1) ; let z = cowait(y) ; resultis callco(x, z) } let g(x) = x + cowait(x * 10) => 10.3.30.
		let start() be { let c = createco(f, 99) ; let d = createco(g, 99) ; callco(c, d) ; w(callco(c, 3)) } let f(x) = valof { let z = cowait(0) ; deleteco(x) ; resultis callco(createco(g, 30), z) } let g(x) = x => 3.
	`)
}

func TestStopInACoroutine(t *testing.T) {
	src := "let start() be { let c = createco(f, 100) ; wrch(callco(c, 65)) ; wrch(callco(c, 0)) ; wrch('A') } let f(x) be g(cowait(x + 1) + 70) let g(x) be stop(x)"
	checkRun(t, src, compiled(t, src), "", api.Result{Out: "B", End: api.Stopped, Code: 70})
}

func TestErrorsOfCoroutines(t *testing.T) {
	checkSources(t, writer, `
		let start() be callco(5, 1) => ErrCall
		let start() be callco(0, 1) => ErrCall
		let start() be callco(-1, 1) => ErrCall
		let start() be callco(createco(f, 99) + 1, 1) let f(x) = x => ErrCall
		let start() be callco(getvec(99), 1) => ErrCall
		let start() be callco(8000, 1) => ErrCall
		let start() be callco(start, 1) => ErrCall
		let start() be callco(createco(f, 20000), 1) let f(x) = x => ErrCall
		let start() be deleteco(5) => ErrCall
		let start() be deleteco(0) => ErrCall
		let start() be deleteco(8000) => ErrCall
		let start() be deleteco(createco(f, -1)) let f(x) = x => ErrCall
		let start() be { let c = createco(f, 50) ; w(deleteco(c)) ; callco(c, 1) } let f(x) = x => ErrCall 0.
		let start() be { let c = createco(f, 50) ; w(deleteco(c)) ; deleteco(c) } let f(x) = x => ErrCall 0.
		let start() be { let c = createco(f, 50) ; w(callco(c, 7)) ; w(deleteco(c)) ; callco(c, 1) } let f(x) = cowait(x) => ErrCall 7.0.
		let start() be cowait(1) => ErrState
		let start() be { let c = createco(f, 50) ; w(callco(c, 1)) ; cowait(1) } let f(x) = x => ErrState 1.
		let start() be { let c = createco(f, 50) ; w(callco(c, 1)) ; cowait(1) } let f(x) = cowait(x) => ErrState 1.
		let start() be { let c = createco(f, 50) ; callco(c, c) } let f(x) be { wrch('A') ; callco(x, x) } => ErrState A
		let start() be { let c = createco(f, 50) ; callco(c, c) } let f(x) be { wrch('A') ; deleteco(x) } => ErrState A
		let start() be { let c = createco(f, 50) ; callco(c, c) } let f(x) be callco(createco(g, 50), x) let g(x) be { wrch('A') ; callco(x, 1) } => ErrState A
		let start() be { let c = createco(f, 50) ; callco(c, c) } let f(x) be callco(createco(g, 50), x) let g(x) be { wrch('A') ; deleteco(x) } => ErrState A
		let start() be callco(createco(wrch, 50), 65) => ErrCall
		let start() be callco(createco(cowait, 50), 65) => ErrCall
		let start() be callco(createco(5, 50), 65) => ErrCall
		let start() be callco(createco(0, 0), 65) => ErrCall
		let start() be callco(createco(wrch, 0), 65) => ErrCall
		let start() be callco(createco(f, 0), 1) let f(x) = x => ErrRoom
		let start() be callco(createco(f, 2), 1) let f(x) = x => ErrRoom
		let start() be { w(callco(createco(f, 3), 1)) ; w(callco(createco(f, 2), 1)) } let f(x) = x => ErrRoom 1.
		let start() be callco(createco(f, 0), 1) let f() be { } => ErrRoom
		let start() be w(callco(createco(f, 1), 1)) let f() be { } => 0.
		let start() be { w(callco(createco(f, 18), 0)) ; wrch('A') ; callco(createco(f, 17), 0) } let f(n) be if n < 4 do f(n + 1) => ErrRoom 0.A
		let start() be { let c = createco(f, 30) ; callco(c, 0) ; wrch('A') } let f(n) be { wrch('B') ; 5() } => ErrCall B
		let start() be { let c = createco(f, 30) ; callco(c, 0) ; wrch('A') } let f(n) be wrch(n / n) => ErrZero
		let start() be { let c = createco(f, 30) ; callco(c, 0) ; wrch('A') } let f(n) be wrch(! (n - 1)) => ErrAddress
	`)
	// One that could not begin is at rest in no run: the fault has ended it.
	m := newMachine(t, compiled(t, "let start() be callco(createco(f, 2), 1) let f(x) = x"), form16, "")
	if r := m.Step(enough); r.Why != api.ErrRoom || m.State() != (stack.State{Ended: true}) || peek(t, m, api.HeapBase) != 0 || peek(t, m, api.HeapBase+2) != 0 {
		t.Errorf("%s, %v", told(r), m.State())
	}
}

// The argument is written behind the link, even where the stack has no such word.
func TestTheArgumentOfACoroutine(t *testing.T) {
	all := fmt.Sprint(api.MemSize - api.HeapBase - 3) // all words but two
	checkSources(t, writer, strings.ReplaceAll(`
		let start() be { let c = createco(f, 1) ; let v = getvec(1) ; v ! 0 := 5 ; callco(c, 77) ; w(v - c) ; w(v ! 0) } let f() be { } => 2.77.
		let start() be { let c = createco(f, 99) ; callco(c, 77) ; w(c ! 2) ; w(c ! 0 = c) ; w(c ! 1) } let f(x) be w(x) => 77.77.-1.-1.
		let start() be { getvec(ALL) ; wrch('A') ; callco(createco(f, 1), 77) } let f() be { } => ErrAddress A
	`, "ALL", all))
}

// The links of coroutines.
func TestLinksOfCoroutines(t *testing.T) {
	for _, x := range []struct {
		src  string
		want api.Result
	}{
		{"let start() be { let c = createco(f, 99) ; w(callco(c, 1)) ; w(callco(c, 2)) } let f(x) be { let v = @ x ; (v - 2) ! 1 := -1 ; (v - 2) ! 0 := v - 2 }", api.Result{Out: "0.0."}},
		{"let start() be callco(createco(f, 99), 1) let f(x) be { wrch('A') ; ! (@ x - 2) := 8000 }", api.Result{Out: "A", End: api.Fault, Why: api.ErrCall}},
		{"let start() be callco(createco(f, 99), 1) let f(x) be ! (@ x - 1) := 0", api.Result{End: api.Fault, Why: api.ErrCall}},
		{"let start() be callco(createco(f, 99), 1) let f(x) be g(1) let g(x) be { (@ x - 2) ! 0 := 16000 ; (@ x - 2) ! 1 := -1 }", api.Result{End: api.Fault, Why: api.ErrCall}},
		{"let start() be callco(createco(f, 99), 1) let f(x) be g(1) let g(x) be { (@ x - 2) ! 0 := @ x - 2 ; (@ x - 2) ! 1 := -1 }", api.Result{End: api.Fault, Why: api.ErrCall}},
		{"let start() be callco(createco(f, 99), 1) let f(x) be { (@ x - 2) ! 0 := 8000 ; (@ x - 2) ! 1 := -1 }", api.Result{End: api.Fault, Why: api.ErrCall}},
		{"let start() be { let c = createco(f, 99) ; callco(c, 1) ; ! (c + 1) := 0 ; callco(c, 2) } let f(x) be { cowait(1) ; wrch('A') }", api.Result{Out: "A", End: api.Fault, Why: api.ErrCall}},
		{"let start() be { let c = createco(f, 99) ; callco(c, 1) ; ! (c + 1) := 0 ; deleteco(c) ; wrch('A') } let f(x) be { cowait(1) ; wrch('B') }", api.Result{Out: "A"}},
		{"let start() be { let c = createco(f, 99) ; callco(c, 1) ; ! (c + 1), ! c := 0, 0 ; callco(c, 5) } let f(x) be { w(x) ; w(cowait(1)) ; stop(3) }", api.Result{Out: "1.5.", End: api.Stopped, Code: 3}},
	} {
		checkRun(t, x.src, compiled(t, x.src+writer), "", x.want)
	}
}

// lost is code that does something in a frame ten words before the end of memory, with the depth 3, though no room was asked for it: a link of the coroutine was written over.
func lost(do string) string {
	n := api.MemSize - api.HeapBase - 10
	create := fmt.Sprintf("stack 4, num %d, global %d, call 2, stack 4, proc 2, num 9, global %d, call 2, putg 30", n-1, getvec, createco)
	return "enter 1, " + create + ", stack 4, global 30, num 5, global 9, call 2, back, " +
		"enter 2, stack 4, proc 3, call 2, back, " +
		"enter 3, num @in, addrl 2, num 1, bin sub, store, back, " +
		"enter 4, stack 4, num 0, call 2, in: " + do + ", stack 2, back"
}

func TestBeyondMemory(t *testing.T) {
	for _, src := range []string{
		"stack 9, num 7", "stack 9, addrl 4000", "stack 9, global 1", "stack 8, num 1, num 2, bin add", "stack 9, proc 1", "stack 9, local 8",
		"num 7, stack 10, putl 3", "stack 10, putl 9", "stack 10, bin add", "stack 10, un not", "stack 10, putg 40", "stack 12",
		"stack 9, global 2, call 5", "stack 9, global 5, call 6", "stack 9, global 7, call 5", "stack 9, num 5, return, label 1, stack 3",
		"num 1, result 1, label 1, take 9", "stack 10, true 2, label 2, stack 4",
	} {
		checkRun(t, src, code(lost(src)), "", api.Result{})
	}
	checkRun(t, "an argument", code(lost("stack 7, num 65, num 3, global 3, call 5")), "", api.Result{Out: "A"})
	checkRun(t, "the last word as an argument", code(lost("stack 9, global 3, call 7")), "", api.Result{Out: string([]byte{(api.MemSize + 500 + wrch) % 256})})
	checkRun(t, "no further argument of stop", code(lost("stack 9, global 4, call 7")), "", api.Result{End: api.Stopped, Code: api.MemSize + 500 + stop})
	for _, src := range []string{"stack 9, global 5, call 7", "stack 9, global 6, call 7", "stack 9, global 10, call 7", "stack 9, global 8, call 6", "stack 9, num 1, stack 9, global 2, call 7"} {
		checkRun(t, src, code(lost(src)), "", api.Result{})
	}
	checkLost(t, api.ErrCall, "stack 9, global 9, call 6", "stack 9, global 11, call 7") // no further arguments of theirs, either
	checkLost(t, api.ErrAddress,
		"stack 10, num 7", "stack 10, addrl 2", "stack 10, global 1", "stack 10, addrg 1", "stack 10, static 0", "stack 10, addrs 0", "stack 10, proc 1", "stack 10, local 2",
		"stack 11, putl 3", "stack 12, putl 10", "stack 12, putl 11", "stack 11, putg 40", "stack 11, puts 0",
		"stack 11, bin add", "stack 12, bin add", "stack 11, un not", "stack 11, load", "stack 11, store", "stack 12, store", "stack 11, getb", "stack 12, getb", "stack 11, putb", "stack 12, putb", "stack 13, putb",
		"stack 11, true 1, label 1, stack 4", "stack 11, false 1, label 1, stack 4", "stack 11, switch 1 0, label 1, stack 4", "stack 11, return, label 1, stack 4", "stack 11, result 1, label 1, take 4",
		"num 1, result 1, label 1, take 10",
		"stack 11, call 5", "stack 10, global 2, call 5", "stack 9, global 7, call 7", "stack 9, global 7, call 6", "stack 9, global 8, call 7", "stack 9, global 9, call 7",
	)
	checkLost(t, api.ErrCall, "stack 9, num 5, call 7", "stack 10, call 7")
	checkLost(t, api.ErrRoom, "stack 9, proc 3, call 7", "stack 9, proc 1, call 4")
	checkLost(t, api.ErrCall, "stack 9, proc 1, call 3") // its seven words are just enough; there is no room for another coroutine, then
}

func checkLost(t *testing.T, why api.Errno, sources ...string) {
	t.Helper()
	for _, src := range sources {
		checkFaults(t, why, lost(src))
	}
}

// A coroutine that steps out of its stack is held to it when it calls.
func TestRoomOfCoroutines(t *testing.T) {
	for n, want := range map[int]api.Errno{20: api.OK, 21: api.OK, 19: api.ErrRoom, 6: api.ErrRoom, 2: api.ErrRoom} {
		src := fmt.Sprintf("enter 1, stack 4, proc 2, num %d, global 8, call 2, putg 30, stack 4, global 30, num 5, global 9, call 2, stop: putg 31, back, "+
			"enter 2 1, stack 8, proc 3, call 6, return, enter 3, stack 15, back", n)
		r := api.Result{Why: want}
		if want != api.OK {
			r.End = api.Fault
		}
		checkRun(t, fmt.Sprint("createco with ", n), code(src), "", r)
	}
}

// States and walks within coroutines.
func TestStatesOfCoroutines(t *testing.T) {
	src := "enter 1, stack 5, proc 2, num 50, global 8, call 3, putg 30, stack 6, global 30, num 5, global 9, call 4, a: putg 31, " +
		"stack 7, global 30, num 6, global 9, call 5, b: putg 32, back, " +
		"two: enter 2 1, local 2, stack 8, num 7, proc 3, call 6, c: return, " +
		"enter 3 1, stack 9, proc 4, num 30, global 8, call 7, putg 33, stack 5, global 33, num 9, global 9, call 3, d: putg 34, stack 6, num 70, global 10, call 4, e: putg 35, num 80, return, " +
		"enter 4 2, stack 9, num 44, global 10, call 7, f: return"
	c := code(src)
	l := ops("num @a, num @b, num @c, num @d, num @e, num @f, " + src)
	const a, b, two, cc, d, e, f = 12, 18, 20, 26, 39, 44, 52
	if l[0].N != a+6 || l[1].N != b+6 || l[2].N != cc+6 || l[3].N != d+6 || l[4].N != e+6 || l[5].N != f+6 {
		t.Fatal(l[:6])
	}
	co, inner := api.HeapBase, api.HeapBase+51
	main1 := stack.State{Place: a, Frame: base, Depth: 5, Proc: 1}
	outer := stack.State{Place: cc, Frame: co, Depth: 7, Proc: 2, Co: co}
	for _, form := range forms() {
		m := newMachine(t, c, form, "")
		for _, x := range []struct {
			place int
			want  []stack.State
		}{
			{two, []stack.State{{Place: two, Frame: co, Proc: 2, Co: co}, main1}},
			{d - 1, []stack.State{{Place: d - 1, Frame: co + 6, Depth: 8, Proc: 3, Co: co}, outer, main1}},
			{f - 5, []stack.State{{Place: f - 5, Frame: inner, Proc: 4, Co: inner}, {Place: d, Frame: co + 6, Depth: 4, Proc: 3, Co: co}, outer, main1}},
			{d, []stack.State{{Place: d, Frame: co + 6, Depth: 4, Proc: 3, Co: co}, outer, main1}},
			{a, []stack.State{main1}},
			{e, []stack.State{{Place: e, Frame: co + 6, Depth: 5, Proc: 3, Co: co}, outer, {Place: b, Frame: base, Depth: 6, Proc: 1}}},
			{cc, []stack.State{outer, {Place: b, Frame: base, Depth: 6, Proc: 1}}},
			{b, []stack.State{{Place: b, Frame: base, Depth: 6, Proc: 1}}},
		} {
			if _, err := m.Until([]int{x.place}, 100); err != api.OK || m.State() != x.want[0] {
				t.Errorf("by %v: Until(%d): %d, %v; want %v", form, x.place, err, m.State(), x.want[0])
			}
			if l := m.Walk(); !slices.Equal(l, x.want) {
				t.Errorf("by %v at %d: %v; want %v", form, x.place, l, x.want)
			}
		}
		r := m.Step(enough)
		if r.End != api.Done || peek(t, m, 31) != 70 || peek(t, m, 32) != 80 || peek(t, m, 34) != 44 || peek(t, m, 35) != 6 {
			t.Errorf("by %v: %s: %d, %d, %d, %d", form, told(r), peek(t, m, 31), peek(t, m, 32), peek(t, m, 34), peek(t, m, 35))
		}
	}
}
