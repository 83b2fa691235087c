package stack_test

import (
	"fmt"
	"strings"
	"testing"

	"bluebell/api"
	"bluebell/stack"
)

func TestRdch(t *testing.T) {
	c := compiled(t, "let start() be { for i = 1 to 5 do w(rdch()) ; w(rdch(7)) }"+writer)
	checkRun(t, "input", c, "a\xff\x00", api.Result{Out: "97.255.0.-1.-1.-1."})
	checkRun(t, "no input", c, "", api.Result{Out: "-1.-1.-1.-1.-1.-1."})
	checkRun(t, "more input", c, "abcdefg", api.Result{Out: "97.98.99.100.101.102."})
}

func TestWrch(t *testing.T) {
	checkSources(t, writer, `
		let start() be { wrch('A') ; wrch(256 + 'B') ; wrch('C' - 256) ; wrch('D', 'E') } => ABCD
		let start() be { w(wrch('A')) ; let p = wrch ; w(p('B') + 5) } => A0.B5.
		let start() be { let t = vec 1 ; t ! 0 := wrch ; (t ! 0)('A') ; (! 3)('B') } => AB
	`)
	c := compiled(t, "let start() be { wrch(-1) ; wrch(0) ; wrch(128) ; wrch(-128) ; wrch(32767) }")
	checkRun(t, "bytes", c, "", api.Result{Out: "\xff\x00\x80\x80\xff"})
}

func TestOutputLimit(t *testing.T) {
	const turns = 500
	if api.MaxOutput%turns != 0 {
		t.Fatal("another number of turns has to be found")
	}
	src := fmt.Sprintf("let start() be { for i = 1 to %d do for j = 1 to %d do wrch('A') ; f() }", api.MaxOutput/turns, turns)
	whole := strings.Repeat("A", api.MaxOutput)
	for _, f := range forms() {
		r, err := stack.Run(compiled(t, src+" let f() be { }"), f, "", api.MaxSteps)
		if result(r) != (api.Result{Out: whole}) || err != api.OK {
			t.Errorf("just enough by %v: %s, %d", f, told(r), err)
		}
		steps := r.Steps
		r, err = stack.Run(compiled(t, src+" let f() be wrch('B')"), f, "", api.MaxSteps)
		if result(r) != (api.Result{Out: whole, End: api.Fault, Why: api.ErrLimit}) || err != api.OK || r.Steps != steps+1 { // stack, num, global and call in place of back, and of stack and back behind the call
			t.Errorf("one more by %v: %s, %d; %d steps before", f, told(r), err, steps)
		}
		if r, err = stack.Run(compiled(t, "let start() be wrch('A') repeat"), f, "", api.MaxSteps); result(r) != (api.Result{Out: whole, End: api.Fault, Why: api.ErrLimit}) || err != api.OK {
			t.Errorf("without end by %v: %s, %d", f, told(r), err)
		}
	}
}

func TestStop(t *testing.T) {
	for _, n := range []int{0, 1, -3, 32767, -32768} {
		checkRun(t, "stop", compiled(t, fmt.Sprintf("let start() be { wrch('A') ; f() ; wrch('B') } let f() be { wrch('C') ; stop(%d) ; wrch('D') }", n)), "", api.Result{Out: "AC", End: api.Stopped, Code: n})
	}
	c := compiled(t, "let start() be stop(40000)")
	for _, f := range forms() {
		want := api.Result{End: api.Stopped, Code: 40000, Steps: 6}
		if f.Bits == 16 {
			want.Code -= 65536
		}
		if r, err := stack.Run(c, f, "", 6); r != want || err != api.OK {
			t.Errorf("stop(40000) by %v: %s, %d", f, told(r), err)
		}
	}
	checkRun(t, "finish", compiled(t, "let start() be { f() ; wrch('B') } let f() be finish"), "", api.Result{End: api.Stopped})
}

func TestMuldiv(t *testing.T) {
	checkSources(t, writer, `
		let start() be { w(muldiv(300, 200, 7)) ; w(muldiv(-7, 1, 2)) ; w(muldiv(7, 1, -2)) ; w(muldiv(32767, 32767, 32767)) ; w(muldiv(0, 5, 3)) } => 8571.-3.-3.32767.0.
		let start() be { w(muldiv(3, 4, 5, 6)) ; w(muldiv(1, 2, 3)) } => 2.0.
		let start() be { wrch('A') ; muldiv(3, 4, 0) ; wrch('B') } => ErrZero A
		let start() be muldiv(0, 0, 0) => ErrZero
	`)
	c := compiled(t, "let start() be stop(muldiv(32767, 32767, 7))")
	for _, f := range forms() {
		// 32767 * 32767 / 7 is 0x9246db7 and a rest.
		want := map[int]int{16: 28087, 24: 2387383, 32: 153382327}[f.Bits]
		if r, err := stack.Run(c, f, "", enough); r.Code != want || r.End != api.Stopped || err != api.OK {
			t.Errorf("muldiv by %v: %s, %d; want %d", f, told(r), err, want)
		}
	}
}

func TestGetvec(t *testing.T) {
	heap := api.MemSize - api.HeapBase
	names := strings.NewReplacer("HEAP", fmt.Sprint(api.HeapBase), "ALL", fmt.Sprint(heap-1), "MORE", fmt.Sprint(heap), "REST", fmt.Sprint(heap-6))
	checkSources(t, writer, names.Replace(`
		let start() be { w(getvec(4) - HEAP) ; w(getvec(0) - HEAP) ; w(getvec(1, 9) - HEAP) ; w(getvec(0) - HEAP) } => 0.5.6.8.
		let start() be { w(getvec(ALL) - HEAP) ; w(getvec(0)) ; w(getvec(-1)) } => 0.0.0.
		let start() be { w(getvec(MORE)) ; w(getvec(32767)) ; w(getvec(-1)) ; w(getvec(-32768)) ; w(getvec(0) - HEAP) } => 0.0.0.0.0.
		let start() be { getvec(4) ; w(getvec(REST + 1)) ; w(getvec(REST) - HEAP) ; w(getvec(0)) ; w(getvec(1)) } => 0.5.0.0.
		let start() be { w(createco(start, ALL) - HEAP) ; w(createco(start, 0)) ; w(getvec(0)) } => 0.0.0.
		let start() be { w(createco(start, MORE)) ; w(createco(start, -1)) ; w(createco(start, -32768)) ; w(createco(start, 4) - HEAP) ; w(getvec(0) - HEAP) ; w(createco(0, 0) - HEAP) } => 0.0.0.0.5.6.
		let start() be { let v = HEAP ; v ! 0, v ! 4, v ! 5, v ! 7, v ! 8 := 7, 8, 9, 10, 11 ; getvec(4) ; w(v ! 0) ; w(v ! 4) ; w(v ! 5) ; createco(f, 2) ; w(v ! 5) ; w(v ! 7) ; w(v ! 8) } let f(x) = x => 0.0.9.0.0.11.
		let start() be { let v = HEAP ; v ! 0, v ! 1 := 7, 8 ; getvec(-1) ; getvec(MORE) ; w(v ! 0) ; w(getvec(0) ! 0) ; w(v ! 1) } => 7.0.8.
		let start() be { let v = getvec(4) ; v ! 4 := 6 ; w(freevec(v)) ; w(freevec(v)) ; w(freevec(0)) ; w(freevec(-5)) ; w(freevec(3, 4)) ; w(v ! 4) ; w(getvec(0) - v) } => 0.0.0.0.0.6.5.
	`))
	// The last word of the heap is the last one of memory.
	m := newMachine(t, compiled(t, "let start() be { let v = getvec("+fmt.Sprint(heap-1)+") ; v ! "+fmt.Sprint(heap-1)+" := 7 }"), form16, "")
	if r := m.Step(enough); r.End != api.Done || peek(t, m, api.MemSize-1) != 7 {
		t.Errorf("%s, %d", told(r), peek(t, m, api.MemSize-1))
	}
}

// An argument that was not pushed is what is in the word.
func TestArgumentsThatWereNotPushed(t *testing.T) {
	checkAllTops(t, `
		stack 4, num 1, num 8, num 2, global 7, stack 5, global 2, putl 2, global 7, call 2 => 16253
		num 6, num 4, num 5, num 6, num 7, num 2, stack 4, global 7, call 2 => 27863
		stack 4, global 3, call 2 => 0
		num 1, num 2, num 3, stack 2, stack 4, global 5, call 2 => 0
	`)
	// The word is the procedure that was pushed there, and popped: its lowest byte is written.
	checkRun(t, "wrch without an argument", code("enter 1, stack 4, global 3, call 2, back"), "", api.Result{Out: string([]byte{(api.MemSize + 500 + wrch) % 256})})
	checkRun(t, "stop without an argument", code("enter 1, stack 4, global 4, call 2, back"), "", api.Result{End: api.Stopped, Code: api.MemSize + 500 + stop})
	checkRun(t, "wrch with an argument of before", code("enter 1, stack 5, num 65, stack 5, num 66, num 3, stack 6, global 3, call 3, back"), "", api.Result{Out: "B"})
	checkRun(t, "cowait without an argument", compiled(t, "let start() be { let c = createco(f, 30) ; stop(callco(c)) } let f(x) be cowait()"), "", api.Result{End: api.Stopped, Code: api.MemSize + 500 + cowait})
}
