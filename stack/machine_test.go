package stack_test

import (
	"math"
	"slices"
	"strings"
	"testing"

	"bluebell/api"
	"bluebell/stack"
)

// errorsOf returns what each function says of arguments; New has no fuel.
func errorsOf(t *testing.T, c api.Code, f api.Form, input string, fuel int) []api.Errno {
	t.Helper()
	m, e0 := stack.New(c, f, input)
	r, e1 := stack.Run(c, f, input, fuel)
	counts, e2 := stack.Profile(c, f, input, fuel)
	called, e3 := stack.Cover(c, f, input, fuel)
	if (m == nil) != (e0 != api.OK) || e1 != api.OK && r != (api.Result{}) || e2 != api.OK && counts != nil || e3 != api.OK && called != nil {
		t.Errorf("results with errors: %v, %v, %v, %v with %v, %d, %d, %d", m, r, counts, called, e0, e1, e2, e3)
	}
	return []api.Errno{e0, e1, e2, e3}
}

func TestErrors(t *testing.T) {
	fine := code("enter 1, back")
	wrong := code("enter 1, num 1, putl 5, back")   // ErrStack
	worse := code("enter 1, num 1, putl -1, back")  // ErrCode
	great := api.Code{Data: make([]api.Data, 2001)} // ErrLimit
	long := strings.Repeat("a", api.MaxInput+1)
	for _, x := range []struct {
		c     api.Code
		f     api.Form
		input string
		fuel  int
		want  [2]api.Errno // of New, and of the others
	}{
		{fine, form16, "", 0, [2]api.Errno{}},
		{fine, form16, long[1:], api.MaxSteps, [2]api.Errno{}},
		{fine, form16, "", -1, [2]api.Errno{api.OK, api.ErrRange}},
		{fine, form16, "", api.MaxSteps + 1, [2]api.Errno{api.OK, api.ErrRange}},
		{fine, form16, "", math.MinInt, [2]api.Errno{api.OK, api.ErrRange}},
		{fine, form16, "", math.MaxInt, [2]api.Errno{api.OK, api.ErrRange}},
		{fine, form16, long, 5, [2]api.Errno{api.ErrLimit, api.ErrLimit}},
		{fine, form16, long, -1, [2]api.Errno{api.ErrLimit, api.ErrLimit}},
		{fine, api.Form{}, long, -1, [2]api.Errno{api.ErrForm, api.ErrForm}},
		{wrong, api.Form{}, long, -1, [2]api.Errno{api.ErrStack, api.ErrStack}},
		{worse, api.Form{}, long, -1, [2]api.Errno{api.ErrCode, api.ErrCode}},
		{great, api.Form{}, long, -1, [2]api.Errno{api.ErrLimit, api.ErrLimit}},
		{wrong, form16, "", 5, [2]api.Errno{api.ErrStack, api.ErrStack}},
		{worse, form16, "", 5, [2]api.Errno{api.ErrCode, api.ErrCode}},
		{great, form16, "", 5, [2]api.Errno{api.ErrLimit, api.ErrLimit}},
	} {
		want := []api.Errno{x.want[0], x.want[1], x.want[1], x.want[1]}
		if l := errorsOf(t, x.c, x.f, x.input, x.fuel); !slices.Equal(l, want) {
			t.Errorf("by %v with %d bytes and the fuel %d: %v; want %v", x.f, len(x.input), x.fuel, l, want)
		}
	}
	for _, f := range wrongForms() {
		if l := errorsOf(t, fine, f, "", 5); !slices.Equal(l, slices.Repeat([]api.Errno{api.ErrForm}, 4)) {
			t.Errorf("by %v: %v", f, l)
		}
	}
	// Words of areas as many as there may be, and one more.
	full := api.Code{Data: []api.Data{words(make([]int, api.StaticSize)...)}}
	if l := errorsOf(t, full, form16, "", 5); !slices.Equal(l, make([]api.Errno, 4)) {
		t.Errorf("full: %v", l)
	}
	full.Data[0].Words = append(full.Data[0].Words, 0)
	if l := errorsOf(t, full, form16, "", 5); !slices.Equal(l, slices.Repeat([]api.Errno{api.ErrLimit}, 4)) {
		t.Errorf("more than full: %v", l)
	}
}

func TestNoMachine(t *testing.T) {
	for _, m := range []*stack.Machine{nil, {}, new(stack.Machine)} {
		if r := m.Step(5); r != (api.Result{}) {
			t.Errorf("Step: %v", r)
		}
		if s := m.State(); s != (stack.State{}) {
			t.Errorf("State: %v", s)
		}
		for _, a := range []int{-1, 0, 5, api.MemSize} {
			if w, err := m.Peek(a); w != 0 || err != api.ErrForm {
				t.Errorf("Peek: %d, %d", w, err)
			}
		}
		if l := m.Walk(); l != nil {
			t.Errorf("Walk: %v", l)
		}
		for _, n := range []int{-1, 0, 5, api.MaxSteps + 1} {
			if n, err := m.Until([]int{0, 1}, n); n != 0 || err != api.ErrForm {
				t.Errorf("Until: %d, %d", n, err)
			}
		}
	}
}

// labelled has labels and cases, which are no steps.
const labelled = "enter 1 1, num 2, switch 1 3, case 1 1, case 2 3, case 2 1, label 1, stack 3, back, label 2, label 3, label 4, stack 3, num 1, true 5, label 5, stack 3, num 9, result 6, label 6, take 3, back"

func TestSteps(t *testing.T) {
	c := code(labelled)
	for _, f := range forms() {
		m := newMachine(t, c, f, "")
		for i, place := range []int{0, 1, 2, 10, 13, 14, 15, 17, 18, 19, 21} {
			if r := m.Step(1); r != (api.Result{End: api.Fuel, Steps: i + 1}) || m.State().Place != place {
				t.Errorf("by %v, step %d: %s at %d; want %d", f, i+1, told(r), m.State().Place, place)
			}
		}
		if r := m.Step(1); r != (api.Result{Steps: 12}) {
			t.Errorf("by %v: %s", f, told(r))
		}
	}
	for _, x := range []struct {
		src  string
		want api.Result
	}{
		{"enter 1, back", api.Result{Steps: 3}},
		{"enter 1, num 1, return", api.Result{Steps: 4}},
		{"enter 1, num 1, num 0, bin div, back", api.Result{End: api.Fault, Why: api.ErrZero, Steps: 5}},
		{"enter 1, num -1, load, back", api.Result{End: api.Fault, Why: api.ErrAddress, Steps: 4}},
		{"enter 1, stack 4, num -1, call 2, back", api.Result{End: api.Fault, Why: api.ErrCall, Steps: 5}},
		{"enter 1, stack 4, num 65, global 3, call 2, stack 4, num 66, global 3, call 2, back", api.Result{Out: "AB", Steps: 11}},
		{"enter 1, stack 4, num 65, global 3, call 2, stack 4, num 66, global 4, call 2, back", api.Result{Out: "A", End: api.Stopped, Code: 66, Steps: 10}},
		{"enter 1, stack 4, num 1, global 10, call 2, back", api.Result{End: api.Fault, Why: api.ErrState, Steps: 6}},
		{"enter 1, stack 4, proc 2, num 9, global 8, call 2, stack 5, local 2, num 7, global 9, call 3, back, enter 2 1, local 2, return", api.Result{Steps: 16}},
	} {
		for _, fuel := range []int{x.want.Steps, x.want.Steps + 1, enough, api.MaxSteps} {
			if r, err := stack.Run(code(x.src), form16, "", fuel); r != x.want || err != api.OK {
				t.Errorf("%s with the fuel %d: %s, %d; want %s", x.src, fuel, told(r), err, told(x.want))
			}
		}
		for _, fuel := range []int{0, 1, x.want.Steps - 1} {
			r, err := stack.Run(code(x.src), form16, "", fuel)
			if r.End != api.Fuel || r.Steps != fuel || r.Code != 0 || r.Why != api.OK || !strings.HasPrefix(x.want.Out, r.Out) || err != api.OK {
				t.Errorf("%s with the fuel %d: %s, %d", x.src, fuel, told(r), err)
			}
		}
	}
}

func TestStep(t *testing.T) {
	c := code("enter 1, stack 4, num 65, global 3, call 2, stack 4, num 66, global 4, call 2, back")
	m := newMachine(t, c, form16, "")
	for _, n := range []int{0, -1, math.MinInt} {
		if r := m.Step(n); r != (api.Result{End: api.Fuel}) || m.State() != (stack.State{Frame: base}) {
			t.Errorf("Step(%d): %s, %v", n, told(r), m.State())
		}
	}
	if r := m.Step(6); r != (api.Result{Out: "A", End: api.Fuel, Steps: 6}) {
		t.Errorf("Step(6): %s", told(r))
	}
	for _, n := range []int{0, -5} {
		if r := m.Step(n); r != (api.Result{Out: "A", End: api.Fuel, Steps: 6}) {
			t.Errorf("Step(%d): %s", n, told(r))
		}
	}
	for _, n := range []int{math.MaxInt, 5, 0, -1, 1} {
		if r := m.Step(n); r != (api.Result{Out: "A", End: api.Stopped, Code: 66, Steps: 10}) {
			t.Errorf("Step(%d): %s", n, told(r))
		}
	}
}

// Machines do not share anything.
func TestMachinesAreApart(t *testing.T) {
	c := code("enter 1, static 0, num 1, bin add, puts 0, static 0, putg 30, back")
	a, b := newMachine(t, c, form16, ""), newMachine(t, c, form16, "")
	a.Step(enough)
	if peek(t, a, 30) != 2 || peek(t, b, 200) != 1 || b.State().Ended {
		t.Errorf("%d, %d, %v", peek(t, a, 30), peek(t, b, 200), b.State())
	}
	b.Step(enough)
	if peek(t, b, 30) != 2 || c.Data[0].Words[0] != 1 {
		t.Errorf("%d, %v", peek(t, b, 30), c.Data)
	}
	l, _ := stack.Profile(c, form16, "", enough)
	l[0] = 99
	if l, _ = stack.Profile(c, form16, "", enough); l[0] != 1 {
		t.Errorf("%v", l)
	}
}

func TestEnded(t *testing.T) {
	for _, src := range []string{"enter 1, num 7, putg 30, back", "enter 1, num 7, putg 30, stack 4, num 1, global 4, call 2, back", "enter 1, num 7, putg 30, num -1, load, back"} {
		m := newMachine(t, code(src), form16, "")
		m.Step(enough)
		if m.State() != (stack.State{Ended: true}) || m.Walk() != nil || peek(t, m, 30) != 7 {
			t.Errorf("%s: %v, %v", src, m.State(), m.Walk())
		}
		if n, err := m.Until([]int{0}, 1); n != 0 || err != api.ErrState {
			t.Errorf("%s: Until: %d, %d", src, n, err)
		}
	}
}

func TestPeek(t *testing.T) {
	m := newMachine(t, code("enter 1, num 7, num 0, store, num 8, num 31999, store, back"), form16, "")
	m.Step(enough)
	for a, want := range map[int]int{0: 7, api.MemSize - 1: 8, 1: api.MemSize + 1, base: base, base + 1: -1} {
		if w, err := m.Peek(a); w != want || err != api.OK {
			t.Errorf("Peek(%d): %d, %d; want %d", a, w, err, want)
		}
	}
	for _, a := range []int{-1, api.MemSize, api.MemSize + 1, math.MinInt, math.MaxInt} {
		if w, err := m.Peek(a); w != 0 || err != api.ErrAddress {
			t.Errorf("Peek(%d): %d, %d", a, w, err)
		}
	}
}

func TestWalk(t *testing.T) {
	c := code("enter 1, stack 4, num 3, proc 2, call 2, a: back, b: enter 2 1, local 2, false 1, stack 6, local 2, num 1, bin sub, proc 2, call 4, c: return, label 1, stack 3, num 5, d: return")
	for _, f := range forms() {
		m := newMachine(t, c, f, "")
		if l := m.Walk(); l != nil {
			t.Errorf("by %v at first: %v", f, l)
		}
		m.Step(1)
		if l := m.Walk(); !slices.Equal(l, []stack.State{{Frame: base, Proc: 1}}) {
			t.Errorf("by %v behind the first call: %v", f, l)
		}
		m.Until([]int{6}, enough)
		first := stack.State{Place: 5, Frame: base, Depth: 3, Proc: 1}
		if l := m.Walk(); !slices.Equal(l, []stack.State{{Place: 6, Frame: base + 2, Proc: 2}, first}) {
			t.Errorf("by %v in a call: %v", f, l)
		}
		m.Until([]int{18}, enough)
		want := []stack.State{{Place: 18, Frame: base + 14, Depth: 3, Proc: 2}, {Place: 15, Frame: base + 10, Depth: 5, Proc: 2}, {Place: 15, Frame: base + 6, Depth: 5, Proc: 2}, {Place: 15, Frame: base + 2, Depth: 5, Proc: 2}, first}
		if l := m.Walk(); !slices.Equal(l, want) {
			t.Errorf("by %v in calls: %v; want %v", f, l, want)
		}
		m.Step(2)
		if l := m.Walk(); !slices.Equal(l, want[1:]) {
			t.Errorf("by %v behind a return: %v; want %v", f, l, want[1:])
		}
		// A result is new memory.
		l := m.Walk()
		l[0] = stack.State{}
		if l = m.Walk(); !slices.Equal(l, want[1:]) {
			t.Errorf("by %v: %v; want %v", f, l, want[1:])
		}
	}
}

// A walk ends where a return would be ErrCall.
func TestWalkByLinksThatAreWrittenOver(t *testing.T) {
	first := []stack.State{{Place: 5, Frame: base, Depth: 7, Proc: 1}}
	for _, x := range []struct {
		do   string
		want func(places map[string]int) []stack.State
	}{
		{"num 0", func(map[string]int) []stack.State { return first }},
		{"num 4" + toPlace, func(map[string]int) []stack.State { return nil }},
		{"num 8001" + toFrame, func(map[string]int) []stack.State { return nil }},
		{"num -1" + toPlace, func(map[string]int) []stack.State { return nil }},
		{"num -1" + toPlace + ", num 8006" + toFrame, func(map[string]int) []stack.State { return nil }},
		{"num @5" + toPlace, func(map[string]int) []stack.State { return nil }},
		{"num @7" + toPlace + ", num 7999" + toFrame, func(map[string]int) []stack.State { return nil }},
		{"num @6" + toPlace, func(p map[string]int) []stack.State {
			return []stack.State{{Place: p["@6"], Frame: base, Depth: 7, Proc: 3}}
		}},
		{"num @3" + toPlace + ", num 8003" + toFrame, func(p map[string]int) []stack.State {
			return []stack.State{{Place: p["@3"], Frame: base + 3, Depth: 4, Proc: 4}}
		}},
	} {
		c := placed(x.do, "num 1, num 2, num 3, back")
		behind := slices.IndexFunc(c.Ops, func(o api.Op) bool { return o == api.Op{Op: api.ONum, N: 3} })
		for _, f := range forms() {
			m := newMachine(t, c, f, "")
			if _, err := m.Until([]int{behind}, enough); err != api.OK || m.State().Place != behind {
				t.Fatalf("%s: %d, %v", x.do, err, m.State())
			}
			want := append([]stack.State{m.State()}, x.want(placesOf(c))...)
			if l := m.Walk(); !slices.Equal(l, want) {
				t.Errorf("%s by %v: %v; want %v", x.do, f, l, want)
			}
		}
	}
}

func TestUntil(t *testing.T) {
	c := code("enter 1, num 3, label 1, stack 3, local 2, num 1, bin sub, putl 2, local 2, true 1, label 2, stack 2, back")
	for _, x := range []struct {
		places []int
		n      int
		want   int
		place  int // -1: it has ended
	}{
		{nil, 1, 1, 0}, {nil, 2, 2, 1}, {[]int{}, 5, 5, 5}, {nil, enough, 26, -1}, {nil, 26, 26, -1}, {nil, 25, 25, 12}, {nil, api.MaxSteps, 26, -1},
		{[]int{0}, 5, 1, 0}, {[]int{1}, 5, 2, 1}, {[]int{2}, 50, 3, 2}, {[]int{3}, 50, 26, -1}, // the OStack behind a label begins in one step with it
		{[]int{4}, 50, 4, 4}, {[]int{12}, 50, 25, 12}, {[]int{10}, 50, 24, 10}, {[]int{13}, 50, 26, -1}, {[]int{-1, 99, math.MaxInt, math.MinInt}, 50, 26, -1},
		{[]int{9, 8}, 50, 8, 8}, {[]int{8, 9, 8}, 8, 8, 8}, {[]int{8, 9}, 7, 7, 7}, {[]int{12}, 3, 3, 2}, {[]int{10, 2}, 50, 3, 2},
	} {
		m := newMachine(t, c, form16, "")
		n, err := m.Until(x.places, x.n)
		place := m.State().Place
		if m.State().Ended {
			place = -1
		}
		if n != x.want || err != api.OK || place != x.place || m.Step(0).Steps != n {
			t.Errorf("Until(%v, %d): %d, %d at %d; want %d at %d", x.places, x.n, n, err, place, x.want, x.place)
		}
	}
	m := newMachine(t, c, form16, "")
	for i, want := range []int{3, 7, 7, 9} { // it steps at least once, also if it is there
		if n, err := m.Until([]int{2}, 50); n != want || err != api.OK || m.State().Ended != (i == 3) {
			t.Errorf("turn %d: %d, %d, %v; want %d", i, n, err, m.State(), want)
		}
	}
}

func TestErrorsOfUntil(t *testing.T) {
	m := newMachine(t, code("enter 1, back"), form16, "")
	for range 2 {
		for _, n := range []int{0, -1, math.MinInt, api.MaxSteps + 1, math.MaxInt} {
			if done, err := m.Until([]int{0}, n); done != 0 || err != api.ErrRange {
				t.Errorf("Until with %d: %d, %d", n, done, err)
			}
		}
		m.Step(enough) // the numbers are looked at first
	}
	if n, err := m.Until(nil, api.MaxSteps); n != 0 || err != api.ErrState {
		t.Errorf("behind the end: %d, %d", n, err)
	}
}

func TestProfileAndCover(t *testing.T) {
	for _, x := range []struct {
		src    string
		fuel   int
		counts []int
		called []bool
	}{
		{"enter 1, back", 0, []int{0, 0}, []bool{false}},
		{"enter 1, back", 1, []int{0, 0}, []bool{true}},
		{"enter 1, back", 2, []int{1, 0}, []bool{true}},
		{"enter 1, back", 9, []int{1, 1}, []bool{true}},
		{labelled, 99, []int{1, 1, 1, 0, 0, 0, 0, 0, 0, 0, 0, 0, 1, 1, 1, 0, 1, 1, 1, 0, 1, 1}, []bool{true}},
		{"enter 1, num 3, label 1, stack 3, local 2, num 1, bin sub, putl 2, local 2, true 1, label 2, stack 2, back", 99, []int{1, 1, 0, 3, 3, 3, 3, 3, 3, 3, 0, 1, 1}, []bool{true}},
		{"enter 1, stack 4, proc 2, call 2, back, enter 2, back, enter 3, back", 99, []int{1, 1, 1, 1, 1, 1, 1, 0, 0}, []bool{true, true, false}},
		{"enter 1, stack 4, proc 2, call 2, back, enter 2, back, enter 3, back", 5, []int{1, 1, 1, 1, 0, 0, 0, 0, 0}, []bool{true, true, false}},
		{"enter 1, stack 4, proc 2, call 2, back, enter 2, back, enter 3, back", 4, []int{1, 1, 1, 0, 0, 0, 0, 0, 0}, []bool{true, false, false}},
		{"enter 1, num 0, num 0, bin div, back, enter 2, back", 99, []int{1, 1, 1, 1, 0, 0, 0}, []bool{true, false}},
		{"enter 1, stack 4, num 5, call 2, back, enter 2, back", 99, []int{1, 1, 1, 1, 0, 0, 0}, []bool{true, false}},
		{"enter 1, stack 4, num 5, global 4, call 2, back, enter 2, back", 99, []int{1, 1, 1, 1, 1, 0, 0, 0}, []bool{true, false}},
		{"enter 1, stack 4, proc 2, num 9, global 8, call 2, stack 5, local 2, num 7, global 9, call 3, back, enter 2 1, local 2, return, enter 3, back", 99, []int{1, 1, 1, 1, 1, 1, 1, 1, 1, 1, 1, 1, 1, 1, 1, 0, 0}, []bool{true, true, false}},
		{"enter 1, stack 4, proc 2, num 1, global 8, call 2, stack 5, local 2, num 7, global 9, call 3, back, enter 2 1, local 2, return, enter 3, back", 99, []int{1, 1, 1, 1, 1, 1, 1, 1, 1, 1, 1, 0, 0, 0, 0, 0, 0}, []bool{true, false, false}},
		{room(api.HeapBase - base - 7980 + 1), 99, []int{1, 1, 0, 1, 1, 1, 0, 1, 1, 0, 1, 1, 1, 0, 0, 0, 0}, []bool{true, true, false}},
	} {
		c := code(x.src)
		for _, f := range forms() {
			counts, err := stack.Profile(c, f, "", x.fuel)
			if !slices.Equal(counts, x.counts) || err != api.OK {
				t.Errorf("Profile of %s by %v: %v, %d; want %v", x.src, f, counts, err, x.counts)
			}
			called, err := stack.Cover(c, f, "", x.fuel)
			if !slices.Equal(called, x.called) || err != api.OK {
				t.Errorf("Cover of %s by %v: %v, %d; want %v", x.src, f, called, err, x.called)
			}
		}
	}
	for _, c := range []api.Code{{}, {Data: []api.Data{words(1)}}} {
		counts, err := stack.Profile(c, form16, "", 5)
		called, err2 := stack.Cover(c, form16, "", 5)
		if len(counts) != 0 || len(called) != 0 || err != api.OK || err2 != api.OK {
			t.Errorf("without instructions: %v, %d, %v, %d", counts, err, called, err2)
		}
	}
	none := code("enter 1, back")
	none.Globals = nil
	counts, err := stack.Profile(none, form16, "", 5)
	called, err2 := stack.Cover(none, form16, "", 5)
	if !slices.Equal(counts, []int{0, 0}) || !slices.Equal(called, []bool{false}) || err != api.OK || err2 != api.OK {
		t.Errorf("without a start: %v, %d, %v, %d", counts, err, called, err2)
	}
}
