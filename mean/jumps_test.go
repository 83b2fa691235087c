package mean_test

import (
	"fmt"
	"testing"

	"bluebell/api"
	"bluebell/mean"
)

// P5.1: jumps, and the locals behind them; loops that count; switches.

func TestJumps(t *testing.T) {
	pairs(`
		w(1) ; goto l ; w(2) ; l : w(3) => 1 3
		goto l ; w(1) ; l : => 
		let i = 0 ; l : w(i) ; i := i + 1 ; if i < 3 do goto l ; w(9) => 0 1 2 9
		{ { w(1) ; goto l } ; w(2) } ; w(3) ; l : w(4) => 1 4
		for i = 1 to 3 do { w(i) ; if i = 2 do goto l } ; w(8) ; l : w(9) => 1 2 9
		while true do { { goto l } repeat } ; w(8) ; l : w(9) => 9
		switchon 1 into { case 1 : w(1) ; goto l } ; w(8) ; l : w(9) => 1 9
		switchon 1 into { case 1 : goto l ; case 2 : w(2) ; l : w(3) ; case 3 : w(4) } => 3 4
		for i = 1 to 3 do { goto l ; w(8) ; l : w(i) } => 1 2 3
		let i = 0 ; for j = 1 to 2 do { l : i := i + 1 ; if i = 1 do goto l ; w(i) ; w(j) } => 2 1 3 2
		let i = 0 ; l : m : i := i + 1 ; if i = 1 do goto l ; if i = 2 do goto m ; w(i) => 3
		let i = 0 ; goto m ; l : w(1) ; m : k : w(2) ; i := i + 1 ; if i < 2 do goto k ; if i < 4 do goto l => 2 2 1 2 1 2
		goto l ; { l : w(1) } ; l : w(2) => 2
		{ goto l ; w(0) ; l : w(1) } ; l : w(2) => 1 2
		{ { goto l } ; w(0) ; l : w(1) } ; l : w(2) => 1 2
		{ m : if st = 7 do { st := 8 ; goto l } ; w(5) } ; l : w(6) => 6
		k : { m : if st < 9 do { st := st + 1 ; test st = 8 then goto m else goto k } ; w(st) ; { n : } } ; l : w(6) => 9 6
		w(valof { m : if st < 9 do { st := st + 1 ; w(valof { n : if st < 8 do { st := 8 ; goto n } ; resultis st }) ; goto m } ; resultis 5 }) ; l : w(6) => 8 9 5 6
		w(valof { let i = 0 ; l : i := i + 1 ; if i < 4 do goto l ; resultis i }) => 4
		w(valof { { goto l } ; resultis 1 ; l : resultis 2 }) ; l : w(3) => 2 3
		w(valof { goto l ; l : }) => 0
		l : w(1) ; if st = 7 do { st := 8 ; goto l } => 1 1
		if true do { goto l ; w(8) } ; w(9) ; l : m : k : w(1) => 1
		let x = 3 ; l : { let x = 0 ; if st = 7 do { st := 8 ; goto l } } ; w(x) => 3`, func(items, want string) {
		if want != "" {
			want += " "
		}
		checkOut(t, items, want)
	})
	// A block that was not begun, a valof and another procedure have labels of their own.
	for _, src := range []string{"let start() be { goto l ; { l : } }", "let start() be { l : f(valof { goto l }) }", "let start() be { l : f() } let f() be goto l"} {
		if r, narrow, err := mean.Run(mustParse(t, src), form16, "", enough); r != (api.Result{}) || narrow || err != api.ErrNone {
			t.Errorf("%s: %v, %v, %d", src, r, narrow, err)
		}
	}
}

// Behind a jump the locals that are declared before the label are there, with nothing in them if they were not come to.
func TestLocalsBehindJumps(t *testing.T) {
	pairs(`
		goto l ; let x = 1 ; l : x := 2 ; w(x) => 2
		goto l ; let x, y = 1, 2 ; l : x, y := 3, 4 ; w(x) ; w(y) => 3 4
		goto l ; let v = vec 3 ; l : v := table(5) ; w(v ! 0) => 5
		goto l ; let x = 1 ; l : @ x % 1 := 6 ; w(@ x % 1) => 6
		let x = 1 ; goto l ; let y = 2 ; l : y := x ; w(x) ; w(y) => 1 1
		let x = 1 ; goto l ; let x = 2 ; l : x := 5 ; w(x) => 5
		let x = 1 ; goto l ; m : w(x) ; goto k ; let x = 2 ; l : x := 5 ; goto m ; k : x := 6 ; w(x) => 1 6
		switchon 2 into { case 1 : ; let x = 5 ; case 2 : x := 6 ; w(x) } => 6
		switchon 2 into { let x = 5 ; default : x := 6 ; w(x) } => 6
		switchon 2 into { let v = vec 2 ; case 2 : v := table(5) ; w(v ! 0) ; endcase ; case 3 : w(1) } => 5
		switchon 1 into { case 1 : ; let x = 5 ; case 2 : w(x) } => 5
		let n = 0 ; l : n := n + 1 ; let x = n ; if n < 3 do goto l ; w(x) => 3
		let n = 0 ; let v = vec 1 ; ! v := 5 ; l : n := n + 1 ; if n < 3 do goto l ; w(! v) => 5
		let n, p = 0, 0 ; let x = 4 ; p := @ x ; l : n := n + 1 ; let y = 1 ; if n < 3 do goto l ; w(! p) ; w(p = @ x) => 4 -1
		let n, p = 0, table(0, 0) ; l : n := n + 1 ; let x = n ; p ! (n - 1) := @ x ; if n < 2 do goto l ; w(!(p ! 1)) => 2
		let n, p = 0, table(0) ; l : n := n + 1 ; { let x = n ; ! p := @ x ; if n < 3 do goto l ; w(!(! p)) } => 3
		let p = ? ; goto l ; let x = 1 ; l : p := @ x ; goto m ; m : ! p := 5 ; w(x) => 5`, func(items, want string) {
		checkOut(t, items, want+" ")
	})
	for _, items := range []string{
		"goto l ; let x = 1 ; l : w(1) ; w(x)", "goto l ; let x, y = 1, 2 ; l : w(1) ; w(y)", "goto l ; let v = vec 3 ; l : w(1) ; v ! 0 := 1", "goto l ; let v = vec 3 ; l : w(1) ; if v do { }",
		"switchon 2 into { case 1 : ; let x = 5 ; case 2 : w(1) ; w(x) }", "switchon 2 into { let x = 5 ; default : w(1) ; w(x) }", "switchon 2 into { let v = vec 3 ; default : w(1) ; v ! 0 := 1 }",
		// Not run since the block began, though it was run before that.
		"for i = 1 to 2 do { if i = 2 do goto l ; let x = 1 ; l : w(x) }",
		// What is declared behind the label has ended, and a let that is run again makes new cells.
		"let n, p = 0, ? ; l : n := n + 1 ; if n = 2 do { w(1) ; w(! p) } ; let x = n ; p := @ x ; goto l",
		"let n, p = 0, ? ; l : n := n + 1 ; let x = n ; if n = 2 do { w(1) ; w(! p) } ; p := @ x ; goto l",
		"let n, p = 0, ? ; l : n := n + 1 ; let v = vec 0 ; if n = 2 do { w(1) ; ! p := 1 } ; p := v ; goto l",
		"let n, p = 0, ? ; l : n := n + 1 ; let v = vec 0 ; if n = 2 do { w(1) ; id(! p) } ; p := @ v ; goto l",
		"let n = 0 ; l : n := n + 1 ; let v = vec 0 ; if n = 2 do { w(1) ; w(! v) } ; ! v := 5 ; goto l",
		"let n = 0 ; goto m ; l : n := n + 1 ; goto m ; let x = 1 ; m : if n = 1 do { w(1) ; w(x) } ; x := 5 ; goto l",
		"let n, p = 0, ? ; l : n := n + 1 ; if n = 2 do goto k ; goto m ; let x = 1 ; m : p := @ x ; goto l ; k : w(1) ; x := 2 ; w(! p)",
		"let p = ? ; { let x = 1 ; p := @ x ; goto l } ; l : w(1) ; w(! p)",
		"let p = ? ; for i = 1 to 3 do { p := @ i ; goto l } ; l : w(1) ; w(! p)",
		"let p = ? ; switchon 1 into { case 1 : ; let x = 1 ; p := @ x ; goto l } ; l : w(1) ; w(! p)",
	} {
		checkWild(t, items, "1 ")
	}
}

// countedTo returns what an endless or finished loop writes in its first turns, told by whole numbers.
func countedTo(from, to, by int, f api.Form, most int) (string, bool) {
	out := ""
	for i := from; by > 0 && i <= to || by < 0 && i >= to; i = norm(i+by, f) {
		if most == 0 {
			return out, false
		}
		most--
		out += fmt.Sprintf("%d ", i)
	}
	return out, true
}

func norm(v int, f api.Form) int {
	above := 64 - f.Bits
	return v << above >> above
}

func TestForUpAndDown(t *testing.T) {
	for _, x := range [][3]int{
		{1, 3, 1}, {3, 1, 1}, {3, 3, 1}, {1, 9, 3}, {1, 10, 3}, {9, 1, -3}, {10, 1, -3}, {1, 9, -1}, {5, 5, -2}, {-2, 2, 1}, {2, -2, -1},
		{32765, 32767, 1}, {32766, 32767, 2}, {32764, 32766, 1}, {32764, 32766, 3}, {-32766, -32767 - 1, -1}, {-32766, -32767, -1}, {-32767 - 1, 32767, 32767}, {32767, -32767 - 1, -32767 - 1}, {0, 32767, 32767},
		{1, 3, 65536}, {1, 3, -65536}, {1, 3, 65537}, {3, 1, -65537}, {1, 3, 40000}, {3, -3, -40000}, {1, 30000, 40000}, {1, 3, 1 << 24}, {3, 1, -(1 << 24)}, {1, 3, 2147483647}, {1, 3, -2147483648}, {3, 1, -2147483648},
		{8388605, 8388607, 1}, {-8388606, -8388608, -1}, {8388605, 8388606, 1}, {2147483645, 2147483647, 1}, {-2147483646, -2147483648, -1}, {2147483645, 2147483646, 1},
	} {
		for _, f := range forms() {
			from, to := norm(x[0], f), norm(x[1], f)
			want, ends := countedTo(from, to, x[2], f, 12)
			src := started(fmt.Sprintf("let n = 0 ; for i = %s to %s by %s do { if n = 12 do stop(9) ; n := n + 1 ; test i + i = 0 & i ~= 0 then least(i) else w(i) }", constant(x[0]), constant(x[1]), constant(x[2]))) + leastWriter
			r, _ := run(t, src, f, "", enough)
			if r.Out != want || (r.End == api.Done) != ends {
				t.Errorf("for from %d to %d by %d by %v: %v; want %q, %v", x[0], x[1], x[2], f, r, want, ends)
			}
		}
	}
}

// constant writes a number of 32 bits as a token.
func constant(n int) string {
	if n < 0 {
		return fmt.Sprintf("#%08x", uint32(n))
	}
	return fmt.Sprint(n)
}

// leastWriter writes the least word, of which there is no positive one.
const leastWriter = " let least(n) be { wrch('-') ; d(- (n / 10)) ; wrch('0' - n rem 10) ; wrch(' ') }"

func TestForLocals(t *testing.T) {
	pairs(`
		for i = 1 to 3 do { w(i) ; i := i + 1 } => 1 3
		let n = 3 ; for i = 1 to n do { w(i) ; n := 1 } => 1 2 3
		for i = 1 to 3 do { let p = @ i ; ! p := 3 ; w(i) } => 3
		let p = 0 ; for i = 1 to 3 do { if i = 1 do p := @ i ; w(p = @ i) ; w(! p) } => -1 1 -1 2 -1 3
		for i = 1 to 2 do for i = i + 5 to i + 6 do w(i) => 6 7 7 8
		for i = 3 to 1 do w(i) ; w(9) => 9
		for i = 1 to 1 do { i := 32767 ; break } ; w(9) => 9`, func(items, want string) {
		checkOut(t, items, want+" ")
	})
	for items, want := range map[string]string{
		"for i = 1 to 2 do { w(i) ; i := ? }": "1 ", "for i = 1 to 2 do { w(i) ; i := @ st }": "1 ", "for i = 1 to 2 do { w(i) ; i := id }": "1 ", "for i = 1 to 2 do { w(i) ; i := ? ; loop }": "1 ", "for i = 1 to 2 do { w(i) ; i := ? ; @ i % 0 := 1 }": "1 ",
		"for i = valof { w(1) ; resultis ? } to valof { w(2) ; resultis 1 } do w(3)": "1 2 ", "for i = valof { w(1) ; resultis 1 } to valof { w(2) ; resultis ? } do w(3)": "1 2 ", "for i = @ st to @ st do w(3)": "", "for i = 1 to id do w(3)": "",
	} {
		checkWild(t, items, want)
	}
}

func TestSwitches(t *testing.T) {
	const body = " into { w(7) ; case 1 : w(1) ; case 2 : case 3 : w(23) ; endcase ; default : w(0) ; case - 1 : w(- 1) ; endcase ; w(8) ; l : case 5 : w(5) ; case 'a' : }"
	pairs(`
		1 => 1 23
		2 => 23
		3 => 23
		- 1 => -1
		5 => 5
		97 => 
		4 => 0 -1
		0 => 0 -1`, func(value, want string) {
		if want != "" {
			want += " "
		}
		checkOut(t, "switchon "+value+body, want)
	})
	pairs(`
		switchon 4 into { w(1) ; case 1 : w(2) } ; w(9) => 9
		switchon 4 into { w(1) } ; w(9) => 9
		switchon 4 into { } ; w(9) => 9
		switchon 1 into { case 1 : } ; w(9) => 9
		switchon 1 into { { w(1) } ; case 1 : { w(2) ; endcase } ; w(3) } ; w(9) => 2 9
		switchon 1 into { default : w(0) ; endcase ; case 1 : w(1) } ; w(9) => 1 9
		for i = 1 to 4 do switchon i into { case 2 : w(20) ; case 3 : w(30) ; endcase ; default : w(40) } => 40 20 30 30 40
		switchon 1 into { case 1 : switchon 2 into { case 1 : w(1) ; default : w(2) ; endcase ; w(3) } ; w(4) } => 2 4`, func(items, want string) {
		checkOut(t, items, want+" ")
	})
	// Constants are normed, and the first one that is equal is it.
	for _, f := range forms() {
		for _, x := range []struct {
			src     string
			by16    string
			by24    string
			by32    string
			because string
		}{
			{"switchon 1 into { case 65537 : w(1) ; endcase ; case 1 : w(2) }", "1 ", "2 ", "2 ", "65537 is 1"},
			{"switchon 1 into { case 1 : w(2) ; endcase ; case 65537 : w(1) }", "2 ", "2 ", "2 ", "the first one"},
			{"switchon 1 into { case 65537 : case 16777217 : w(1) ; endcase ; case 1 : w(2) }", "1 ", "1 ", "2 ", "both"},
			{"switchon 65537 into { case 1 : w(1) ; endcase ; default : w(2) }", "1 ", "2 ", "2 ", "the value is a word"},
			{"switchon 5 into { case 65541 : w(1) ; endcase ; default : w(2) }", "1 ", "2 ", "2 ", "before the default"},
		} {
			want := map[int]string{16: x.by16, 24: x.by24, 32: x.by32}[f.Bits]
			if r, _ := run(t, started(x.src), f, "", enough); r.Out != want || r.End != api.Done {
				t.Errorf("%s by %v: %v; want %q: %s", x.src, f, r, want, x.because)
			}
		}
	}
	for _, value := range []string{"?", "@ st", "id", "\"\"", "gl"} {
		checkWild(t, "w(1) ; switchon "+value+" into { w(2) }", "1 ")
	}
}

func TestValofs(t *testing.T) {
	pairs(`
		w(valof { }) => 0
		w(valof { w(1) ; resultis 2 }) => 1 2
		w(valof { for i = 1 to 5 do if i = 3 do resultis i ; resultis 9 }) => 3
		w(valof { switchon 1 into { case 1 : resultis 4 } }) => 4
		w(valof { { { resultis 5 } repeat } ; resultis 6 }) => 5
		w(valof { let x = valof { resultis 1 } ; resultis x + valof { resultis 10 } }) => 11
		w(valof { let x = valof { } ; resultis x + 1 }) => 1
		w(valof { id(valof { resultis 7 }) }) => 0
		let x = valof { resultis @ st } ; w(! x) => 7
		let f = valof { resultis id } ; w(f(4)) => 4
		w(valof { for i = 1 to 3 do { let x = valof { if i = 2 do resultis 20 ; resultis i } ; w(x) } ; resultis 8 }) => 1 20 3 8`, func(items, want string) {
		checkOut(t, items, want+" ")
	})
}
