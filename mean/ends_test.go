package mean_test

import (
	"fmt"
	"strings"
	"testing"

	"bluebell/api"
	"bluebell/mean"
)

// P5.1: each end of a run, steps, and errors.

func TestEnds(t *testing.T) {
	for _, x := range []struct {
		src  string
		want api.Result
	}{
		{"let start() be wrch('A')", api.Result{Out: "A", End: api.Done, Steps: 4}},
		{"let start() be { }", api.Result{End: api.Done, Steps: 2}},
		{"let start() = ?", api.Result{End: api.Done, Steps: 1}},
		{"let start() = 7", api.Result{End: api.Done, Steps: 1}},
		{"let start() be { wrch('A') ; return ; wrch('B') }", api.Result{Out: "A", End: api.Done, Steps: 6}},
		{"let start() be { wrch('A') ; stop(7) ; wrch('B') }", api.Result{Out: "A", End: api.Stopped, Code: 7, Steps: 9}},
		{"let start() be { wrch('A') ; finish ; wrch('B') }", api.Result{Out: "A", End: api.Stopped, Steps: 6}},
		{"let start() be { wrch('A') ; 1(2) ; wrch('B') }", api.Result{Out: "A", End: api.Wild, Steps: 9}},
		{"let start() be { wrch('A') ; wrch(1 / 0) ; wrch('B') }", api.Result{Out: "A", End: api.Fault, Why: api.ErrZero, Steps: 10}},
		{"let start() be { wrch('A') ; wrch(1 rem 0) ; wrch('B') }", api.Result{Out: "A", End: api.Fault, Why: api.ErrZero, Steps: 10}},
		{"let start() be { wrch('A') ; wrch(muldiv(1, 2, 0)) ; wrch('B') }", api.Result{Out: "A", End: api.Fault, Why: api.ErrZero, Steps: 12}},
		{"let start() be { wrch('A') ; start() }", api.Result{Out: strings.Repeat("A", api.MaxCalls), End: api.Fault, Why: api.ErrRoom, Steps: 8 * api.MaxCalls}},
		{"let start() be while 1 do wrch('x')", api.Result{Out: strings.Repeat("x", 19999), End: api.Fuel, Steps: enough}},
	} {
		for _, f := range forms() {
			if r, narrow := run(t, x.src, f, "", enough); r != x.want || narrow != (x.want.End != api.Wild) {
				t.Errorf("%s by %v: %v, %v; want %v", x.src, f, r, narrow, x.want)
			}
			tame, err := mean.Tame(mustParse(t, x.src), f, "", enough)
			if want := x.want.End == api.Done || x.want.End == api.Stopped; tame != want || err != api.OK {
				t.Errorf("Tame(%s) by %v: %v, %d", x.src, f, tame, err)
			}
		}
	}
	// A divisor that is 0 as a word.
	for _, f := range forms() {
		if r, _ := run(t, "let start() be stop(1 / 65536)", f, "", enough); (r.End == api.Fault) != (f.Bits == 16) {
			t.Errorf("by %v: %v", f, r)
		}
	}
}

// writing is a program that writes so many bytes.
func writing(bytes int) string {
	return fmt.Sprintf("let start() be { for i = 1 to %d do for j = 1 to 1000 do wrch('x') ; for i = 1 to %d do wrch('y') }", bytes/1000, bytes%1000)
}

func TestMaxOutput(t *testing.T) {
	for _, f := range forms() {
		r, narrow := run(t, writing(api.MaxOutput), f, "", api.MaxSteps)
		if len(r.Out) != api.MaxOutput || r.End != api.Done || !narrow {
			t.Errorf("by %v: %d bytes, %d, %v", f, len(r.Out), r.End, narrow)
		}
		steps := r.Steps
		r, narrow = run(t, writing(api.MaxOutput+1), f, "", api.MaxSteps)
		if len(r.Out) != api.MaxOutput || r.End != api.Fault || r.Why != api.ErrLimit || r.Code != 0 || r.Steps != steps+4 || !narrow {
			t.Errorf("by %v: %d bytes, %d, %d, %d steps, %v", f, len(r.Out), r.End, r.Why, r.Steps, narrow)
		}
	}
	// What is no number is wild, whatever was written before.
	src := strings.Replace(writing(api.MaxOutput), "let start() be {", "let start() be { f() ; wrch(?) } let f() be {", 1)
	if r, _ := run(t, src, form16, "", api.MaxSteps); len(r.Out) != api.MaxOutput || r.End != api.Wild {
		t.Errorf("%d bytes, %d", len(r.Out), r.End)
	}
}

func TestMaxCalls(t *testing.T) {
	for _, x := range []struct {
		src   string
		calls int // at one time, with N in the source
	}{
		{"let start() be f(N) let f(n) = n = 0 -> 0, f(n - 1)", 2},
		{"let start() be f(N) let f(n) be if n > 0 do f(n - 1)", 2},
		{"let start() be { for i = 1 to 5 do f(N) ; f(N) } let f(n) = n = 0 -> rdch(), f(n - 1) + g() let g() = wrch(65)", 2},
		{"let start() be f(N) let f(n) be { if n > 0 do g(n - 1) } let g(n) = valof { if n > 0 do f(n - 1) }", 2},
		{"let start() be f(id(N)) let id(x) = x let f(n) = n = 0 -> 0, f(id(n) - 1)", 2},
	} {
		least := api.MaxCalls - x.calls
		for n, want := range map[int]int{0: api.Done, least: api.Done, least + 1: api.Fault} {
			r, narrow := run(t, strings.ReplaceAll(x.src, "N", fmt.Sprint(n)), form16, "", enough)
			if r.End != want || (want == api.Fault) != (r.Why == api.ErrRoom) || !narrow {
				t.Errorf("%s with %d: %v, %v", x.src, n, r, narrow)
			}
		}
	}
}

// filled puts vectors with so many words, at least 2, into a source.
func filled(src string, words int) string {
	items := ""
	for words > 0 {
		n := min(words, api.MaxVec+2)
		if words-n == 1 {
			n--
		}
		items += fmt.Sprintf("let filler = vec %d ; ", n-2)
		words -= n
	}
	return strings.Replace(src, "FILL", items, 1)
}

func TestMaxFrame(t *testing.T) {
	for _, x := range []struct {
		src   string
		words int // of all calls at one time without what is filled in, as counted by hand
	}{
		{"let start() be { FILL wrch(65) }", 2 + 10*5},
		{"let start() be { FILL }", 2 + 10*4}, // a vector's size is at the level 4
		{"let start() be { FILL f() } let f() be { }", 2 + 10*5 + 2 + 10*3},
		{"let start() be { FILL f(1, 2) } let f(x, y) be { }", 2 + 10*5 + 2 + 2 + 10*3},
		{"let start() be { f(1) ; FILL } let f(x) = x", 2 + 10*5 + 2 + 1 + 10*2},
		{"let start() be { FILL f() } let f() be { let a, b, c = 1, 2, 3 }", 2 + 10*5 + 2 + 3 + 10*4},
		{"let start() be { FILL f() } let f() be { let a = 1 ; let b = 1 ; { let c = 1 } ; { let d = 1 } }", 2 + 10*5 + 2 + 4 + 10*5},
		{"let start() be { FILL f() } let f() be { let v = vec 0 ; if false do { let u = vec 5 } }", 2 + 10*5 + 2 + 2 + 7 + 10*6},
		{"manifest { m = 3 } let start() be { FILL f() } let f() be { let v = vec m * 2 }", 2 + 10*5 + 2 + 8 + 10*5},
		{"let start() be { FILL f() } let f() be for i = 1 to 2 do { }", 2 + 10*5 + 2 + 2 + 10*4},
		{"let start() be { FILL f() } let f() be for i = 1 to 2 by 2 do for j = 1 to 2 do { }", 2 + 10*5 + 2 + 4 + 10*5},
		{"let start() be { FILL f() } let f() = valof { let x = valof { let y = 1 ; resultis y } ; resultis x }", 2 + 10*5 + 2 + 2 + 10*8},
		{"let start() be { FILL f(valof { let x = 1 ; resultis x }) } let f(x) be { }", 2 + 1 + 10*8 + 2 + 1 + 10*3},
		{"let start() be { FILL f(g(h(1))) } let f(x) = g(x) let g(x) = 1 let h(x) = 1", 2 + 10*7 + 2 + 1 + 10*3 + 2 + 1 + 10*2},
		{"let start() be { FILL f(3) } let f(n) = n = 0 -> 0, f(n - 1)", 2 + 10*5 + 4*(2+1+10*5)},
		{"let start() be { FILL muldiv(1, 2, 3) ; getvec(100) ; rdch() }", 2 + 10*5},
		{"let start() be { FILL goto l ; let x = 1 ; l : ; { goto k ; k : } ; switchon 1 into { let v = vec 3 ; case 2 : } }", 2 + 1 + 5 + 10*6},
	} {
		for _, f := range []api.Form{{Bits: 16}, {Bits: 32, Big: true}} {
			r, narrow := run(t, filled(x.src, api.MaxFrame-x.words), f, "", enough)
			if r.End != api.Done || !narrow {
				t.Errorf("%s with all words: %v, %v", x.src, r, narrow)
			}
			r, narrow = run(t, filled(x.src, api.MaxFrame-x.words+1), f, "", enough)
			if r.End != api.Fault || r.Why != api.ErrRoom || !narrow {
				t.Errorf("%s with one word more: %v, %v", x.src, r, narrow)
			}
		}
	}
}

// The room is looked at when a call begins: of start before any step, and behind the arguments and their number.
func TestWhenRoomIsLookedAt(t *testing.T) {
	for _, fuel := range []int{0, 1, enough} {
		r, narrow := run(t, filled("let start() be { FILL wrch(65) }", api.MaxFrame), form16, "", fuel)
		if want := (api.Result{End: api.Fault, Why: api.ErrRoom}); r != want || !narrow {
			t.Errorf("with the fuel %d: %v, %v", fuel, r, narrow)
		}
	}
	src := filled("let start() be { f(wrch(65)) ; wrch(66) } let f(x) be { FILL }", api.MaxFrame)
	if r, _ := run(t, src, form16, "", enough); r != (api.Result{Out: "A", End: api.Fault, Why: api.ErrRoom, Steps: 7}) {
		t.Errorf("%v", r)
	}
	src = filled("let start() be f(wrch(65), 1) let f(x) be { FILL }", api.MaxFrame)
	if r, _ := run(t, src, form16, "", enough); r != (api.Result{Out: "A", End: api.Wild, Steps: 7}) {
		t.Errorf("%v", r)
	}
}

// TestSteps tells the steps of each kind of node, counted by hand, and tries all fuels up to them.
func TestSteps(t *testing.T) {
	pairs(`
		5 => 1
		true => 1
		false => 1
		? => 1
		"abc" => 1
		m => 1
		start => 1
		s => 1
		slct(1, 2 + 3, 4) => 1
		table(1, 2 + 3, slct(1, 1, 1), m) => 1
		1 + 2 * 3 => 5
		- 1 => 2
		~ - 1 => 3
		"abc" % 1 => 3
		table(1, 2) ! 1 => 3
		1 ! table(1, 2) => 3
		! table(1) => 2
		@ s => 1
		@(table(1) ! 0) => 3
		@ ! table(1) => 2
		! @ s => 2
		true -> 1, 2 + 3 => 3
		false -> 1, 2 + 3 => 5
		slct(1, 2, 0) of table(1) => 2
		m of table(1) => 2
		(1 + 2 + 1 * 4) of table(1) => 2
		id(1 + 2) => 6
		two(1, 2) => 5
		no() => 4
		rdch() => 2
		muldiv(1, 2, 3) => 5
		getvec(1) => 3
		valof { } => 3
		valof { resultis 1 } => 4`, func(expression, steps string) {
		checkSteps(t, "let start() = "+expression, steps)
	})
	pairs(`
		{ } => 2
		{ ; } => 3
		{ { } ; { { } } } => 6
		return => 1
		finish => 1
		s := 1 => 2
		s, s := 1, 2 + 3 => 5
		table(1) ! 0 := 1 => 4
		! table(1) := 1 => 3
		! (table(1) + 0) := 1 => 5
		"abc" % 1 := 2 => 4
		slct(1, 1, 0) of table(1) := 1 => 3
		no() => 5
		id(1) => 5
		if 1 do { } => 4
		if 0 do { } => 2
		unless 1 do { } => 2
		unless 0 do { } => 4
		test 1 then { } else s := 1 => 4
		test 0 then { } else s := 1 => 4
		while 0 do { } => 2
		until 1 do { } => 2
		while s < 2 do s := s + 1 => 18
		until s = 2 do s := s + 1 => 18
		s := s + 1 repeatwhile s < 2 => 15
		s := s + 1 repeatuntil s = 2 => 15
		{ s := s + 1 ; if s = 2 do break } repeat => 20
		{ s := s + 1 ; if s < 2 do loop ; break } repeat => 21
		{ s := s + 1 ; if s < 2 do loop } repeatwhile s < 2 => 26
		for i = 1 to 3 do { } => 9
		for i = 3 to 1 do { } => 3
		for i = 1 to 3 by 1 + 1 do { } => 7
		for i = 1 to 3 do if i = 2 do loop => 16
		for i = 1 to 3 do if i = 2 do break => 12
		switchon 1 into { case 1 : } => 5
		switchon 1 into { case 2 - 1 : } => 5
		switchon 2 into { case 1 : } => 2
		switchon 2 into { s := 1 ; case 1 : ; default : } => 5
		switchon 1 into { case 1 : case 2 : ; default : } => 8
		switchon 1 into { case 1 : l : } => 6
		switchon 1 into { case 1 : endcase ; default : } => 5
		{ goto l ; s := 1 ; l : } => 4
		{ goto m ; l : m : } => 4
		{ goto l ; l : m : } => 5
		{ l : m : } => 4
		{ { goto l } ; l : } => 5
		{ let x = 1 } => 3
		{ let x, y = 1, 2 + 3 } => 6
		{ let v = vec 3 + 4 } => 2
		{ goto l ; let x = 1 ; let v = vec 3 ; l : } => 4
		if valof { resultis 0 } do { } => 5
		stop(3) => 4`, func(command, steps string) {
		checkSteps(t, "let start() be "+command, steps)
	})
	for src, steps := range map[string]string{
		"let start() be { let x = ? ; if x do finish }": "5", // wild
		"let start() = 1 / 0":                           "3",
		"let start() = ?(1)":                            "3",
		"let start() = f(1)":                            "3", // wild at the number of arguments
		"let start() = ! 1 + 2":                         "3",
		"let start() be ! 1 := 2":                       "3",
		"let start() be for i = ? to 2 do { }":          "3",
		"let start() be switchon ? into { case 1 : }":   "2",
	} {
		checkSteps(t, src+" let f() = 1", steps)
	}
}

// checkSteps takes a program that ends by itself behind so many steps.
func checkSteps(t *testing.T, src, steps string) {
	t.Helper()
	s := mustParse(t, "manifest { m = slct(1, 1, 0) } "+src+" static { s = 0 } let id(x) = x let two(x, y) = x let no() be { }")
	whole, _, err := mean.Run(s, form16, "", enough)
	if fmt.Sprint(whole.Steps) != steps || whole.End == api.Fuel || err != api.OK {
		t.Errorf("%s: %v, %d; want %s steps", src, whole, err, steps)
	}
	if r, _, _ := mean.Run(s, form16, "", whole.Steps); r != whole {
		t.Errorf("%s with just enough fuel: %v", src, r)
	}
	for fuel := range whole.Steps {
		if r, narrow, err := mean.Run(s, form16, "", fuel); r != (api.Result{End: api.Fuel, Steps: fuel}) || !narrow || err != api.OK {
			t.Errorf("%s with the fuel %d: %v, %v, %d", src, fuel, r, narrow, err)
		}
	}
}

func TestErrors(t *testing.T) {
	good := mustParse(t, "manifest { len = 3 } let start() be stop(len)")
	longest, tooLong := strings.Repeat("x", api.MaxInput), strings.Repeat("x", api.MaxInput+1)
	noForm := api.Form{Bits: 8}
	for _, x := range []struct {
		s     api.Section
		f     api.Form
		input string
		fuel  int
		want  api.Errno
	}{
		{good, form16, "", 0, api.OK}, {good, form16, longest, 0, api.OK}, {good, form16, "", api.MaxSteps, api.OK},
		{good, noForm, "", 0, api.ErrForm}, {good, api.Form{}, "", 0, api.ErrForm}, {good, api.Form{Bits: 64, Big: true}, "", 0, api.ErrForm}, {good, api.Form{Bits: -16}, "", 0, api.ErrForm},
		{good, form16, tooLong, 0, api.ErrLimit}, {good, form16, "", -1, api.ErrRange}, {good, form16, "", api.MaxSteps + 1, api.ErrRange}, {good, form16, "", -1 << 63, api.ErrRange}, {good, form16, "", 1<<63 - 1, api.ErrRange},
		{good, noForm, tooLong, -1, api.ErrForm}, {good, form16, tooLong, -1, api.ErrLimit},
		{api.Section{}, form16, "", 0, api.ErrStart}, {mustParse(t, "let f() = 1"), noForm, tooLong, -1, api.ErrStart}, {mustParse(t, "let start(x) = 1"), form16, "", 0, api.ErrStart},
		{mustParse(t, "let start() = a"), noForm, tooLong, -1, api.ErrNone}, {mustParse(t, "let start() be 1 := 2(3)"), form16, "", 0, api.ErrKind},
		{mustParse(t, "let f() be { let v = vec f }"), form16, "", 0, api.ErrConst}, {mustParse(t, "static { a = 1 / 0 } let start() = 1"), form16, "", 0, api.ErrZero}, {mustParse(t, "let start() be { let v = vec 2001 }"), form16, "", 0, api.ErrRange},
		{mustParse(t, "let start() be break"), form16, "", 0, api.ErrPlace}, {mustParse(t, "let start() = 1 let start() = 2"), form16, "", 0, api.ErrTwice},
		{api.Section{Decls: []api.Node{{Op: 999}}}, noForm, tooLong, -1, api.ErrForm}, {api.Section{Name: "\x00"}, form16, "", 0, api.ErrForm},
		{api.Section{Decls: []api.Node{{Op: api.DProc, S: "start", L: []api.Node{chain(api.MaxNest)}}}}, noForm, "", 0, api.ErrDeep},
		{api.Section{Decls: []api.Node{{Op: api.DProc, S: "start", L: []api.Node{chain(api.MaxNest - 1)}}}}, form16, "", 0, api.OK},
		{api.Section{Decls: []api.Node{{Op: api.DProc, S: "start", L: []api.Node{chain(api.MaxNodes - 1)}}}}, form16, "", 0, api.ErrDeep},
		{api.Section{Decls: []api.Node{{Op: api.DProc, S: "start", L: []api.Node{node(api.ECall, make([]api.Node, api.MaxArgs+2)...)}}}}, form16, "", 0, api.ErrForm},
	} {
		r, narrow, err := mean.Run(x.s, x.f, x.input, x.fuel)
		if err != x.want || err != api.OK && (r != api.Result{} || narrow) {
			t.Errorf("Run(%.80v, %v, %d bytes, %d): %v, %v, %d; want %d", x.s, x.f, len(x.input), x.fuel, r, narrow, err, x.want)
		}
		if tame, err := mean.Tame(x.s, x.f, x.input, x.fuel); err != x.want || err != api.OK && tame {
			t.Errorf("Tame(%.80v, %v, %d bytes, %d): %v, %d; want %d", x.s, x.f, len(x.input), x.fuel, tame, err, x.want)
		}
		if l, err := mean.Trace(x.s, x.f, x.input, x.fuel); err != x.want || err != api.OK && l != nil {
			t.Errorf("Trace(%.80v, %v, %d bytes, %d): %v, %d; want %d", x.s, x.f, len(x.input), x.fuel, l, err, x.want)
		}
	}
}

// R4: the trees are as they were, and results share nothing.
func TestArgumentsAreNotChanged(t *testing.T) {
	const src = "manifest { m = 3 } static { s = m } let start() be { let t = table(1, 2) ; t ! 0 := 9 ; s := s + m ; \"ab\" % 1 := 5 ; for i = 1 to 2 do switchon i into { case 1 : ; let x = 1 ; default : x := 2 } ; stop(s + t ! 0) }"
	s := mustParse(t, src)
	first, _, _ := mean.Run(s, form16, "", enough)
	names, _ := mean.Trace(s, form16, "", enough)
	names[0] = "changed"
	second, _, _ := mean.Run(s, form16, "", enough)
	again, _ := mean.Trace(s, form16, "", enough)
	if first != second || first.Code != 15 || again[0] != "start" || fmt.Sprint(s) != fmt.Sprint(mustParse(t, src)) {
		t.Errorf("%v, %v, %v, %v", first, second, again, s)
	}
}
