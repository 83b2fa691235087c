package stack_test

import (
	"fmt"
	"slices"
	"strings"
	"testing"

	"bluebell/api"
	"bluebell/stack"
)

func TestCalls(t *testing.T) {
	checkAllTops(t, `
		stack 4, num 9, num 8, num 7, proc 2, call 2 => 8
		stack 4, num 9, num 8, num 7, num 32002, call 2 => 8
		num 5, stack 5, num 9, num 8, num 7, proc 2, call 3 => 5 8
		num 5, num 6, num 3, num 4, num 9, num 8, num 7, proc 2, call 4 => 5 6 8
		stack 4, num 9, num 8, num 7, num 6, proc 2, call 3 => 0 7
		stack 4, num 65, global 3, call 2 => 0
		stack 4, num 65, num 32503, call 2 => 0
		num 5, stack 5, num 65, global 3, call 3 => 5 0
		stack 4, global 2, call 2 => 120
		stack 4, num 1, num 2, global 2, call 2, putl 2, stack 4, global 2, call 2 => 121
		stack 4, num 9, num 9, num 9, num 6, num 3, num 4, global 7, call 5 => 0 0 9 4
	`)
	checkFaults(t, api.ErrCall,
		"enter 1, stack 4, num 0, call 2, back", "enter 1, stack 4, num -1, call 2, back", "enter 1, stack 4, num 32000, call 2, back", "enter 1, stack 4, num 32002, call 2, back", "enter 1, stack 4, num 32200, call 2, back",
		"enter 1, stack 4, num 32499, call 2, back", "enter 1, stack 4, num 32500, call 2, back", "enter 1, stack 4, num 32501, call 2, back", "enter 1, stack 4, num 32512, call 2, back", "enter 1, stack 4, num 32767, call 2, back", "enter 1, stack 4, num -32768, call 2, back",
		"enter 1, stack 4, global 12, call 2, back", "enter 1, stack 4, addrg 3, call 2, back", "enter 1, stack 4, num 3, call 2, back",
	)
}

// What is called is what a global has then, whether it was given, an entry or neither.
func TestCallsOfGlobals(t *testing.T) {
	c := code("enter 1, stack 4, num 5, num 65, global 3, call 2, putg 30, global 3, putg 12, proc 2, putg 3, stack 4, num 66, global 12, call 2, stack 4, num 67, global 3, call 2, putg 31, back, enter 2 1, local 2, return")
	for _, f := range forms() {
		m := newMachine(t, c, f, "")
		if r := m.Step(enough); r.Out != "\x05B" || r.End != api.Done || peek(t, m, 30) != 0 || peek(t, m, 31) != 67 {
			t.Errorf("by %v: %s, %d, %d", f, told(r), peek(t, m, 30), peek(t, m, 31))
		}
	}
	c.Globals = append(c.Globals, api.Entry{Global: wrch, Proc: 2})
	m := newMachine(t, c, form16, "")
	if r := m.Step(enough); r.Out != "" || r.End != api.Done || peek(t, m, 30) != 5 || peek(t, m, 31) != 67 {
		t.Errorf("an entry that is given: %s, %d, %d", told(r), peek(t, m, 30), peek(t, m, 31))
	}
}

// The parts of a call: the link, the locals and the depths.
func TestFramesOfCalls(t *testing.T) {
	c := code("enter 1, num 9, stack 5, num 8, proc 2, call 3, behind: putg 30, back, in: enter 2 2, num 3, bin add, return")
	for _, f := range forms() {
		m := newMachine(t, c, f, "")
		check := func(steps int, want stack.State, memory ...int) {
			t.Helper()
			m.Step(steps)
			if m.State() != want {
				t.Errorf("by %v: %v; want %v", f, m.State(), want)
			}
			for i, w := range memory {
				if got := peek(t, m, base+i); got != w {
					t.Errorf("by %v: the word %d of the stack is %d; want %d", f, i, got, w)
				}
			}
		}
		check(0, stack.State{Frame: base})
		check(1, stack.State{Frame: base, Proc: 1}, base, -1, 0)
		check(1, stack.State{Place: 1, Frame: base, Depth: 2, Proc: 1})
		check(1, stack.State{Place: 2, Frame: base, Depth: 3, Proc: 1}, base, -1, 9, 0)
		check(1, stack.State{Place: 3, Frame: base, Depth: 5, Proc: 1})
		check(2, stack.State{Place: 5, Frame: base, Depth: 7, Proc: 1}, base, -1, 9, 0, 0, 8, api.MemSize+2)
		check(1, stack.State{Place: 8, Frame: base + 3, Proc: 2}, base, -1, 9, base, 6, 8, api.MemSize+2)
		check(1, stack.State{Place: 9, Frame: base + 3, Depth: 4, Proc: 2})
		check(2, stack.State{Place: 11, Frame: base + 3, Depth: 4, Proc: 2}, base, -1, 9, base, 6, 8, api.MemSize+5)
	}
}

func TestReturns(t *testing.T) {
	c := code("enter 1, num 9, stack 5, num 8, proc 2, call 3, behind: putg 30, stack 5, proc 3, call 3, putg 31, num 4, return, in: enter 2 2, num 7, num 6, return, enter 3, num 5, back")
	for _, f := range forms() {
		m := newMachine(t, c, f, "")
		if n, err := m.Until([]int{6}, 50); n != 11 || err != api.OK || m.State() != (stack.State{Place: 6, Frame: base, Depth: 4, Proc: 1}) || peek(t, m, base+3) != 6 {
			t.Errorf("by %v: %d, %d, %v", f, n, err, m.State())
		}
		if r := m.Step(enough); r != (api.Result{End: api.Done, Steps: 21}) || peek(t, m, 30) != 6 || peek(t, m, 31) != 0 {
			t.Errorf("by %v: %s, %d, %d", f, told(r), peek(t, m, 30), peek(t, m, 31))
		}
	}
}

// linked is code in which the procedure 2 does something with its link, and returns 5 then. Its frame is at base + 6, and its link leads to the place 5 of the procedure 1. If it returns to the procedure 3, what it returned and the depth are kept in globals.
func linked(do, last string) api.Code {
	return code("enter 1, num 1, stack 8, proc 2, call 6, here: putg 30, back, " +
		"enter 2, " + do + ", " + last + ", " +
		"enter 3, stack 8, num 0, call 6, same: putg 31, stack 4, num 1, global 4, call 2, back, " +
		"enter 4, stack 8, num 0, call 3, lower: putg 32, local 2, putg 33, stack 4, num 2, global 4, call 2, back, " +
		"enter 5, stack 8, num 0, call 5, label 1, stack 9, stack 4, num 3, global 4, call 2, back, " +
		"enter 6, stack 9, num 0, call 7, stack 4, num 4, global 4, call 2, back")
}

const (
	toPlace = ", addrl 2, num 1, bin sub, store"
	toFrame = ", addrl 2, num 2, bin sub, store"
)

// placesOf returns the places behind the calls 6, 3, 5 and 7 of the procedures 3 to 6.
func placesOf(c api.Code) map[string]int {
	l := map[string]int{}
	for i, o := range c.Ops {
		if o.Op == api.OCall && i > 10 && o.N != 2 {
			l[fmt.Sprint("@", o.N)] = i + 1
		}
	}
	return l
}

// placed puts places for @6, @3, @5 and @7.
func placed(do, last string) api.Code {
	for name, place := range placesOf(linked(do, last)) {
		do = strings.ReplaceAll(do, name, fmt.Sprint(place))
	}
	return linked(do, last)
}

func TestLinksThatAreWrittenOver(t *testing.T) {
	for _, x := range []struct {
		do        string
		end, code int
		why       api.Errno
	}{
		{"num 0", api.Done, 0, api.OK},
		{"num 5" + toPlace, api.Done, 0, api.OK},
		{"num 8000" + toFrame, api.Done, 0, api.OK},
		{"num @6" + toPlace, api.Stopped, 1, api.OK},
		{"num @3" + toPlace + ", num 8003" + toFrame, api.Stopped, 2, api.OK},
		{"num @5" + toPlace + ", num 8001" + toFrame, api.Stopped, 3, api.OK},
		// The place is not directly behind an OCall.
		{"num 4" + toPlace, api.Fault, 0, api.ErrCall},
		{"num 6" + toPlace, api.Fault, 0, api.ErrCall},
		{"num 0" + toPlace, api.Fault, 0, api.ErrCall},
		{"num 7" + toPlace, api.Fault, 0, api.ErrCall},
		{"num -1" + toPlace, api.Fault, 0, api.ErrCall},
		{"num -2" + toPlace, api.Fault, 0, api.ErrCall},
		{"num -32768" + toPlace, api.Fault, 0, api.ErrCall},
		{"num 32767" + toPlace, api.Fault, 0, api.ErrCall},
		{"num 32006" + toPlace, api.Fault, 0, api.ErrCall},
		{"num @5, num 1, bin add" + toPlace + ", num 8001" + toFrame, api.Fault, 0, api.ErrCall},
		// The frame.
		{"num 8001" + toFrame, api.Fault, 0, api.ErrCall},
		{"num 7999" + toFrame, api.Fault, 0, api.ErrCall},
		{"num 0" + toFrame, api.Fault, 0, api.ErrCall},
		{"num -1" + toFrame, api.Fault, 0, api.ErrCall},
		{"num 8006" + toFrame, api.Fault, 0, api.ErrCall},
		{"num 31999" + toFrame, api.Fault, 0, api.ErrCall},
		{"num 32000" + toFrame, api.Fault, 0, api.ErrCall},
		{"num -32768" + toFrame, api.Fault, 0, api.ErrCall},
		// The local: the frame and the OCall do not give the frame that returns.
		{"num @3" + toPlace, api.Fault, 0, api.ErrCall},
		{"num @5" + toPlace, api.Fault, 0, api.ErrCall},
		{"num @5" + toPlace + ", num 8003" + toFrame, api.Fault, 0, api.ErrCall},
		{"num @6" + toPlace + ", num 8003" + toFrame, api.Fault, 0, api.ErrCall},
		{"num @7" + toPlace, api.Fault, 0, api.ErrCall},
		{"num @7" + toPlace + ", num 7999" + toFrame, api.Fault, 0, api.ErrCall}, // it would give it, but is not in the stack
		// The first link is that of the first frame alone.
		{"num -1" + toPlace + ", num 8006" + toFrame, api.Fault, 0, api.ErrCall},
		{"num -1" + toPlace + ", num 0" + toFrame, api.Fault, 0, api.ErrCall},
	} {
		checkRun(t, x.do+" return", placed(x.do, "num 5, return"), "", api.Result{End: x.end, Code: x.code, Why: x.why})
		checkRun(t, x.do+" back", placed(x.do, "back"), "", api.Result{End: x.end, Code: x.code, Why: x.why})
	}
}

// What is returned is written to where the frame was, and the depth is as behind the other call.
func TestReturnsToOtherCalls(t *testing.T) {
	for _, x := range []struct {
		do, name     string
		frame, depth int
		proc         int
	}{
		{"num @6" + toPlace, "@6", base, 7, 3},
		{"num @3" + toPlace + ", num 8003" + toFrame, "@3", base + 3, 4, 4},
		{"num @5" + toPlace + ", num 8001" + toFrame, "@5", base + 1, 6, 5},
	} {
		for last, result := range map[string]int{"num 5, return": 5, "back": 0} {
			c := placed(x.do, last)
			place := placesOf(c)[x.name]
			for _, f := range forms() {
				m := newMachine(t, c, f, "")
				_, err := m.Until([]int{place}, enough)
				if want := (stack.State{Place: place, Frame: x.frame, Depth: x.depth, Proc: x.proc}); m.State() != want || err != api.OK {
					t.Errorf("%s, %s by %v: %v, %d; want %v", x.do, last, f, m.State(), err, want)
				}
				if w := peek(t, m, base+6); w != result || peek(t, m, base+7) != place {
					t.Errorf("%s, %s by %v: the result is %d", x.do, last, f, w)
				}
			}
		}
	}
}

// A return that faults writes nothing.
func TestReturnsThatFault(t *testing.T) {
	m := newMachine(t, placed("num 7"+toPlace, "num 5, return"), form16, "")
	if r := m.Step(enough); r.Why != api.ErrCall || peek(t, m, base+6) != base || peek(t, m, base+7) != 7 {
		t.Errorf("%s, %d, %d", told(r), peek(t, m, base+6), peek(t, m, base+7))
	}
}

func TestTheFirstReturn(t *testing.T) {
	for _, x := range []struct {
		src string
		end int
		why api.Errno
	}{
		{"back", api.Done, api.OK},
		{"num 5, return", api.Done, api.OK},
		{"num -1" + toPlace + ", num 8000" + toFrame + ", back", api.Done, api.OK},
		{"num 8001" + toFrame + ", back", api.Fault, api.ErrCall},
		{"num 0" + toFrame + ", num 5, return", api.Fault, api.ErrCall},
		{"num 0" + toPlace + ", back", api.Fault, api.ErrCall},
		{"num -2" + toPlace + ", back", api.Fault, api.ErrCall},
		{"num 1" + toPlace + ", num 5, return", api.Fault, api.ErrCall},
		{"num 7998" + toFrame + ", num 14" + toPlace + ", back, stack 4, num 0, call 2, back", api.Fault, api.ErrCall},
	} {
		checkRun(t, x.src, code("enter 1, "+x.src), "", api.Result{End: x.end, Why: x.why})
	}
	// A link that looks like the first one.
	for _, src := range []string{"num 8000" + toFrame + ", num -1" + toPlace, "num -1" + toPlace, "num 8002" + toFrame + ", num -1" + toPlace} {
		checkFaults(t, api.ErrCall, "enter 1, stack 4, proc 2, call 2, back, enter 2, "+src+", num 1, return")
	}
	// The first call may be of a procedure with parameters, and any number.
	c := code("enter 1, back, enter 2 3, local 2, local 3, bin or, local 4, bin or, putg 30, addrl 2, putg 31, back")
	c.Globals = []api.Entry{{Global: 1, Proc: 2}}
	m := newMachine(t, c, form16, "")
	if r := m.Step(enough); r.End != api.Done || peek(t, m, 30) != 0 || peek(t, m, 31) != base+2 {
		t.Errorf("start with parameters: %s, %d, %d", told(r), peek(t, m, 30), peek(t, m, 31))
	}
}

func TestNoStart(t *testing.T) {
	want := api.Result{End: api.Fault, Why: api.ErrCall, Steps: 1}
	none := code("enter 1, back")
	none.Globals = []api.Entry{{Global: 12, Proc: 1}, {Global: rdch, Proc: 1}}
	for _, c := range []api.Code{{}, {Data: []api.Data{words(api.MemSize + 1)}}, none} {
		for _, f := range forms() {
			if r, err := stack.Run(c, f, "", enough); r != want || err != api.OK {
				t.Errorf("%s by %v: %s, %d", written(c.Ops), f, told(r), err)
			}
			if r, err := stack.Run(c, f, "", 0); r != (api.Result{End: api.Fuel}) || err != api.OK {
				t.Errorf("%s by %v without fuel: %s, %d", written(c.Ops), f, told(r), err)
			}
		}
	}
}

// room is code whose frames are at base, base + 3990 and base + 7980; the room of the last procedure is told.
func room(words int) string {
	return fmt.Sprint("enter 1, jump 1, label 1, stack 3993, proc 2, call 3990, back, enter 2, jump 2, label 2, stack 3993, proc 3, call 3990, back, enter 3, stack ", words, ", back")
}

func TestRoom(t *testing.T) {
	last := api.HeapBase - base - 7980
	checkRun(t, "just enough room", code(room(last)), "", api.Result{End: api.Done})
	checkFaults(t, api.ErrRoom, room(last+1), room(last+2), room(2000))
	// It is the greatest depth, wherever it is, also where nothing runs: parameters and pushes too.
	deep := strings.TrimSuffix(room(last), ", back")
	checkRun(t, "just enough room", code(deep+", back, label 3, stack 5, num 1, back"), "", api.Result{End: api.Done})
	checkFaults(t, api.ErrRoom, deep+", num 1, back", deep+", back, num 1, back", strings.Replace(deep, "enter 3, ", "enter 3, back, ", 1)+", num 1, back")
	// A call in the middle of a room.
	for n, want := range map[int]api.Errno{16: api.OK, 17: api.ErrRoom} {
		c := code(strings.TrimSuffix(room(20), "stack 20, back") + fmt.Sprintf("stack 20, stack %d, num 1, putl 2, stack 19, proc 4, call %d, back, enter 4 2, back", n, n))
		end := api.Result{End: api.Done}
		if want != api.OK {
			end = api.Result{End: api.Fault, Why: want}
		}
		checkRun(t, fmt.Sprint("a call at ", n), c, "", end)
	}
	// A call that faults writes no link.
	m := newMachine(t, code(room(last+1)), form16, "")
	if r := m.Step(enough); r.Why != api.ErrRoom || r.Steps != 11 || peek(t, m, base+7980) != 0 || peek(t, m, base+7981) != 0 {
		t.Errorf("%s", told(r))
	}
	checkSources(t, "", `
		let start() be start() => ErrRoom
		let start() be f(1) let f(n) be f(n + 1) => ErrRoom
		let start() = start => 
	`)
}

// Places behind 32767 are words below 0 by 16 bits, and lead back all the same.
func TestPlacesBeyondWords(t *testing.T) {
	n := 40
	c := finished(slices.Concat(ops("enter 1"), slices.Repeat(ops("stack 2"), api.MaxOps-n), ops("stack 4, num 6, proc 2, call 2, putg 30, back, enter 2 1, num 1, return")))
	behind := api.MaxOps - n + 5
	for _, f := range forms() {
		m := newMachine(t, c, f, "")
		m.Step(api.MaxOps - n + 6)
		want := []stack.State{{Place: behind + 2, Frame: base + 2, Proc: 2}, {Place: behind, Frame: base, Depth: 3, Proc: 1}}
		if l := m.Walk(); !slices.Equal(l, want) {
			t.Errorf("by %v: %v; want %v", f, l, want)
		}
		link := peek(t, m, base+3)
		if f.Bits == 16 && link != behind-65536 && behind > 32767 || f.Bits != 16 && link != behind {
			t.Errorf("by %v: the link is %d", f, link)
		}
		if r := m.Step(enough); r.End != api.Done || peek(t, m, 30) != 1 {
			t.Errorf("by %v: %s", f, told(r))
		}
	}
	// There is no such place in short code.
	checkFaults(t, api.ErrCall, fmt.Sprintf("enter 1, stack 4, proc 2, call 2, back, enter 2, num %d%s, back", 4-65536-1, toPlace))
}
