package mean_test

import (
	"fmt"
	"strings"
	"testing"

	"bluebell/api"
	"bluebell/mean"
)

// P5.1: which runs are narrow.

// checkNarrow takes items of start that are not wild, and for words of 16, 24 and 32 bits y or n: whether they are narrow.
func checkNarrow(t *testing.T, items, want string) {
	t.Helper()
	checkNarrowSource(t, started(items), want)
}

func checkNarrowSource(t *testing.T, src, want string) {
	t.Helper()
	s := mustParse(t, src)
	for i, f := range forms() {
		r, narrow, err := mean.Run(s, f, "", enough)
		if err != api.OK || r.End == api.Wild || narrow != (want[i/2] == 'y') {
			t.Errorf("%.300s by %v: %v, %v, %d; want %s", src, f, r, narrow, err, want)
		}
	}
}

func TestNarrowConstants(t *testing.T) {
	pairs(`
		id(32767) => yyy
		id(32768) => nnn
		id(#ffff8000) => yyy
		id(#ffff7fff) => nnn
		id(65536) => nnn
		id(65537) => nnn
		id(#80000000) => nnn
		id(2147483647) => nnn
		id(true -> 1, 40000) => yyy
		if false do id(40000) => yyy
		id(slct(0, 0, 31)) => yyy
		id(slct(16, 0, 31)) => yyy
		id(slct(0, 0, 32)) => nnn
		id(slct(1, 2, 32) of (@ st - 32)) => yyy
		id(slct(16, 0, 255) of (@ st - 255)) => yyy
		slct(0, 0, 255) of (@ st - 255) := 5 => yyy
		id(table(1, 32767, #ffff8000)) => yyy
		id(table(1, 32768)) => nnn
		id(table(65536, 1)) => nnn
		id(table(1, 32767 + 1)) => nnn
		id(table(1, 32768 - 1)) => yyy
		if false do id(table(40000)) => yyy
		let v = vec 100000 / 50 => yyy
		switchon 1 into { case 32767 : case #ffff8000 : } => yyy
		switchon 1 into { case 1 : ; case 2 : endcase ; case 32768 : } => nnn
		switchon 1 into { case 32768 : } => nnn
		switchon 1 into { case 65537 : } => nnn
		switchon 1 into { case #ffff7fff : case 1 : } => nnn
		switchon 1 into { case 32768 - 1 : } => yyy
		if false do switchon 1 into { case 32768 : } => yyy
		for i = 1 to 2 by 32767 do break => yyy
		for i = 1 to 2 by 32768 do break => nnn
		for i = 1 to 2 by #ffff8000 do break => yyy
		for i = 1 to 2 by #ffff7fff do break => nnn
		for i = 2 to 1 by 65537 do { } => nnn
		for i = 1 to 2 by 65537 - 65536 do { } => yyy
		if false do for i = 1 to 2 by 32768 do break => yyy`, func(items, want string) {
		checkNarrow(t, items, want)
	})
	for src, want := range map[string]string{
		"manifest { m = 40000 } let start() be { }":                               "yyy",
		"manifest { m = 40000 } let start() = m":                                  "nnn",
		"manifest { m = 40000 ; n = m / 2 } let start() = n":                      "yyy",
		"manifest { m = 32768 } let start() = valof { let m = 1 ; resultis m }":   "yyy",
		"static { s = 32767 ; u = #ffff8000 } let start() be { }":                 "yyy",
		"static { s = 32768 } let start() be { }":                                 "nnn",
		"static { s = 1 ; u = 65536 } let start() be { }":                         "nnn",
		"static { s = 40000 ; u = 1 } let start() be { }":                         "nnn",
		"static { s = 40000 / 2 } let start() be { }":                             "yyy",
		"let start() be { } static { s = #ffff7fff }":                             "nnn",
		"global { g : 40000 - 39900 } let start() be { }":                         "yyy",
		"let start() be { } let f() be { f(40000) ; f(table(40000), 1 + 40000) }": "yyy",
	} {
		checkNarrowSource(t, src, want)
	}
	// Statics count from the beginning, whatever is run.
	for fuel := range 3 {
		if r, narrow := run(t, "static { s = 40000 } let start() be { }", form16, "", fuel); narrow || r.Steps != fuel {
			t.Errorf("with the fuel %d: %v, %v", fuel, r, narrow)
		}
	}
	// Others when they are computed, by and cases when their command is run.
	for src, steps := range map[string]int{"let start() = id(40000)": 2, "let start() be { switchon 1 into { default : case 40000 : } }": 2, "let start() be for i = 1 to 2 by 40000 do { }": 1, "let start() be { { id(table(40000)) } }": 5} {
		for fuel := range steps + 2 {
			r, narrow := run(t, src+" let id(x) = x", form16, "", fuel)
			if narrow != (fuel < steps) || r.Steps != fuel {
				t.Errorf("%s with the fuel %d: %v, %v", src, fuel, r, narrow)
			}
		}
	}
}

func TestNarrowOperators(t *testing.T) {
	pairs(`
		32767 + 0 => yyy
		32766 + 1 => yyy
		32767 + 1 => nnn
		- 32767 - 1 => yyy
		- 32767 - 2 => nnn
		- 32767 + (- 2) => nnn
		181 * 181 => yyy
		182 * 181 => nnn
		256 * 256 => nnn
		(- 16384) * 2 => yyy
		(- 16385) * 2 => nnn
		32767 / (- 1) => yyy
		(- 32767 - 1) / (- 1) => nnn
		(- 32767 - 1) rem (- 1) => yyy
		1 << 14 => yyy
		1 << 15 => nnn
		0 << 15 => yyy
		0 << 16 => nnn
		1 << (- 1) => nnn
		(- 1) << 1 => nnn
		1 >> 15 => yyy
		1 >> 16 => nnn
		32767 >> 0 => yyy
		(- 1) >> 1 => nnn
		(- 1) >> 0 => nnn
		(- 32767 - 1) & 32767 => yyy
		(- 32767 - 1) | 32767 => yyy
		(- 32767 - 1) xor 32767 => yyy
		(- 32767 - 1) eqv 32767 => yyy
		~ 32767 => yyy
		- (- 32767) => yyy
		- (- 32767 - 1) => nnn
		(- 32767 - 1) < 32767 => yyy
		(- 32767 - 1) = 32767 => yyy
		muldiv(181, 181, 1) => yyy
		muldiv(182, 181, 181) => nnn
		muldiv(- 16384, 2, 1) => yyy
		muldiv(- 16384, 2, - 1) => nnn
		muldiv(32767, 1, - 1) => yyy
		muldiv(256, 256, 256) => nnn
		getvec(0) => yyy
		getvec(100) => yyy
		getvec(- 1) => nnn
		getvec(16000) => nnn
		freevec(0) => yyy
		rdch() => yyy
		wrch(300) => yyy
		wrch => yyy
		? => yyy`, func(expression, want string) {
		checkNarrow(t, "id("+expression+")", want)
		checkNarrow(t, "id(1) ; for i = 1 to 2 do { id("+expression+") } ; id(2)", want) // once is enough, and nothing mends it
	})
	pairs(`
		for i = 32766 to 32766 do { } => yyy
		for i = 32766 to 32767 do if i = 32767 do break => yyy
		for i = 32766 to 32767 do if i = 32767 do stop(1) => yyy
		for i = - 32767 to - 32767 by - 1 do { } => yyy
		for i = - 32766 to - 32767 by - 2 do { } => yyy
		for i = 32760 to 32766 by 4 do { } => nnn
		for i = 1 to 32767 by 32767 do { if i ~= 1 do stop(1) } => nnn
		stop(32767) => yyy
		stop(32768) => nnn
		stop(- 32767 - 1) => yyy
		finish => yyy
		id(1 / 0) => yyy
		id(40000 / 0) => nnn`, func(items, want string) {
		checkNarrow(t, items, want)
	})
	// A word that is no narrow one by more bits.
	checkNarrowSource(t, "let start() be { let x = 1 ; for i = 1 to 15 do x := x + x }", "nnn")
	checkNarrowSource(t, "let start() be { let x = 1 ; for i = 1 to 14 do x := x + x }", "yyy")
	for _, f := range forms() {
		r, narrow := run(t, "let start() be for i = 32767 to 32767 do { }", f, "", 1000)
		if narrow || (r.End == api.Done) != (f.Bits > 16) {
			t.Errorf("by %v: %v, %v", f, r, narrow)
		}
		// rdch gives nothing but -1 and bytes.
		if _, narrow := run(t, "let start() be for i = 1 to 5 do rdch()", f, "\xff\x00\x80", enough); !narrow {
			t.Errorf("rdch by %v", f)
		}
	}
}

func TestNarrowBytes(t *testing.T) {
	pairs(`
		id("abc" % 0) => yyy
		id("abc" % 3) => yyy
		id("ab" % 2) => yyy
		let s = "abc" ; s % 3 := 5 ; s % 0 := 1 ; id(s % 3) => yyy
		let v = vec 3 ; v % 0 := 1 ; id(v % 0) => yyy
		let v = vec 3 ; v % 3 := 1 ; v % 1 := 400 ; id(v % 3) => yyy
		let v = getvec(3) ; v % 5 := 1 ; id((v + 2 - 2) % 5) => yyy
		let x = ? ; @ x % 1 := 1 ; id(@ x % 1) => yyy
		gl := ? ; @ gl % 1 := 1 => yyy
		let v = vec 3 ; (v + 1) % 0 := 1 => nnn
		let v = vec 3 ; (v + 1) % (- 1) := 1 => nnn
		let v = vec 3 ; v ! 3 := 1 ; v % 0 := 1 => nnn
		let v = vec 3 ; v % 0 := 1 ; v ! 3 := 1 ; id(v % 0) => nnn
		let v = vec 3 ; v ! 3 := 1 ; v ! 3 := ? ; v % 0 := 1 => yyy
		let v = vec 3 ; v ! 3 := v ; v ! 2 := 1 ; v ! 3 := ? ; v % 0 := 1 => nnn
		let v = vec 3 ; v ! 3 := id ; v ! 3 := 1 ; v ! 3 := ? ; v % 0 := 1 => yyy
		let v = vec 3 ; v ! 3 := ? ; v % 0 := 1 => yyy
		let t = table(1, 2) ; t ! 0 := ? ; t % 0 := 1 => nnn
		let t = table(1, 2) ; t ! 0, t ! 1 := ?, ? ; t % 0 := 1 => yyy
		let x = 5 ; x := ? ; @ x % 0 := 1 => yyy`, func(items, want string) {
		checkNarrow(t, items, want)
	})
	// Beyond the length of a string there may be bytes, up to the end of its last word.
	for _, f := range forms() {
		n := f.Bits / 8
		for length := range 9 {
			for i := range (length + n) / n * n {
				for _, use := range []string{"id(\"%s\" %% %d)", "\"%s\" %% %d := 5"} {
					src := started(fmt.Sprintf(use, "abcdefgh"[:length], i))
					if r, narrow := run(t, src, f, "", enough); r.End != api.Done || narrow != (i <= length) {
						t.Errorf("%s by %v: %v, %v", src[:40], f, r, narrow)
					}
				}
			}
		}
		// The length is that of the text, whatever its first byte is.
		for _, x := range []struct {
			items string
			want  bool
		}{{"let s = \"abcd\" ; s % 0 := 2 ; id(s % 4)", true}, {"let s = \"\" ; s % 0 := 1 ; id(s % 1)", false}, {"let s = \"abcd\" ; s % 0 := 5 ; id(s % 5)", false}} {
			if f.Bits == 24 && strings.Contains(x.items, "abcd") {
				x.items = strings.ReplaceAll(strings.ReplaceAll(x.items, "abcd", "abc"), "4", "3")
				x.items = strings.ReplaceAll(x.items, "5", "4")
			}
			if r, narrow := run(t, started(x.items), f, "", enough); r.End != api.Done || narrow != x.want {
				t.Errorf("%s by %v: %v, %v", x.items, f, r, narrow)
			}
		}
		// A byte that is counted from the middle of an object.
		src := started(fmt.Sprintf("let s, v = \"abcd\", getvec(3) ; v %% 0 := 1 ; id((s + 1) %% (- %d))", n-1))
		if _, narrow := run(t, src, f, "", enough); narrow {
			t.Errorf("by %v", f)
		}
		src = started(fmt.Sprintf("let v = getvec(3) ; v %% 0 := 1 ; id((v + 1) %% (- %d))", n))
		if _, narrow := run(t, src, f, "", enough); narrow {
			t.Errorf("by %v", f)
		}
	}
}

// What is used as a word must not be one of bytes by longer words, since the run would be wild by them (P5.5).
func TestNarrowWordsBesideBytes(t *testing.T) {
	for _, use := range []string{"v ! AT := 1", "v ! AT := ?", "id(v ! AT)", "v ! AT := id"} {
		for at := range 8 {
			for i := range 16 {
				for _, f := range forms() {
					n := f.Bits / 8
					src := started(fmt.Sprintf("let v = vec 7 ; v %% %d := 65 ; %s", i, strings.ReplaceAll(use, "AT", fmt.Sprint(at))))
					r, narrow := run(t, src, f, "", enough)
					want := true
					for longer := n; longer <= 4; longer++ {
						want = want && i/longer != at
					}
					if (r.End == api.Wild) != (i/n == at) || narrow != want {
						t.Errorf("%s with byte %d and cell %d by %v: %v, %v; want %v", use, i, at, f, r, narrow, want)
					}
				}
			}
		}
	}
}

func TestNarrowAddresses(t *testing.T) {
	pairs(`
		let s = "abcdefgh" ; id(s = s) ; id(s >= s + 0) ; id(s - s) => yyy
		let s = "abcdefgh" ; id(s + 1 = s) => nnn
		let s = "abcdefgh" ; id(s < s + 1) => nnn
		let s = "abcdefgh" ; id(s + 1 <= s + 1) => nnn
		let s = "abcdefgh" ; id(s + 1 - s) => nnn
		let s = "abcdefgh" ; id(s - (s + 1)) => nnn
		let s = "abcdefgh" ; id(s + 1 - 1 = s) ; let p = s + 1 ; id(p) ; id(@(s ! 5)) ; id(@ ! (s - 3)) => yyy
		let s = "abcdefgh" ; if s do w(1) => yyy
		let s = "abcdefgh" ; if s + 1 do w(1) => nnn
		let s = "abcdefgh" ; id(s + 1 -> 1, 2) => nnn
		let s = "abcdefgh" ; id(s = 0) ; id(0 ~= s) ; id(s = id) ; id(wrch = s) ; id(s = "abcdefgh") ; id(@ st = s) => yyy
		let s = "abcdefgh" ; id(s + 1 = 0) => nnn
		let s = "abcdefgh" ; id(0 = s + 1) => nnn
		let s = "abcdefgh" ; id(s + 1 ~= id) => nnn
		let s = "abcdefgh" ; id(id = s + 1) => nnn
		let s = "abcdefgh" ; id(s + 1 = @ st) => nnn
		let s = "abcdefgh" ; id(@ st ~= s + 1) => nnn
		let v = vec 3 ; id(v + 1 = v) ; id(v + 4 - v) ; id(v + 1 < v + 2) ; id(v + 1 = 0) ; if v + 1 do w(1) => yyy
		let v = table(1, 2) ; id(v + 1 = v) ; id(v + 1 - v) ; id(v + 1 = id) ; if v + 1 do w(1) => yyy
		id(wrch = id) ; id(id = 0) ; if id do w(1) => yyy`, func(items, want string) {
		checkNarrow(t, items, want)
	})
}

func TestNarrowSelectors(t *testing.T) {
	pairs(`
		let x = 255 ; id(slct(4, 4, 0) of @ x) => yyy
		let x = 32767 ; id(slct(0, 0, 0) of @ x) => yyy
		let x = - 1 ; id(slct(4, 4, 0) of @ x) => nnn
		let x = - 1 ; id(slct(0, 0, 0) of @ x) => nnn
		let x = - 1 ; id(slct(1, 0, 0) of @ x) => nnn
		let x = 5 ; slct(4, 4, 0) of @ x := 3 => yyy
		let x = - 5 ; slct(4, 4, 0) of @ x := 3 => nnn
		let x = 5 ; slct(4, 0, 0) of @ x := - 1 => yyy
		let x = 0 ; slct(1, 14, 0) of @ x := 1 => yyy
		let x = 0 ; slct(1, 15, 0) of @ x := 1 => nnn
		let x = 0 ; slct(1, 15, 0) of @ x := 2 => yyy
		let x = 0 ; slct(16, 0, 0) of @ x := - 1 => nnn
		let x = 0 ; slct(0, 0, 0) of @ x := 32767 => yyy
		let x = 0 ; slct(0, 0, 0) of @ x := - 1 => nnn
		let x = 0 ; slct(0, 4, 0) of @ x := 2047 => yyy
		let x = 0 ; slct(0, 4, 0) of @ x := 2048 => nnn
		let x = 0 ; slct(0, 4, 0) of @ x := 4096 => nnn
		let x = 0 ; slct(0, 16, 0) of @ x := 0 => yyy
		let x = 0 ; slct(0, 16, 0) of @ x := 1 => nnn`, func(items, want string) {
		checkNarrow(t, items, want)
	})
}

// A wild run is not narrow, others may be, however they end.
func TestNarrowEnds(t *testing.T) {
	for src, want := range map[string]bool{"let start() be { }": true, "let start() = stop(1)": true, "let start() = 1 / 0": true, "let start() = start()": true, "let start() be { } repeat": true, "let start() = ?(1)": false, "let start() = 40000": false} {
		if _, narrow := run(t, src, form16, "", 1000); narrow != want {
			t.Errorf("%s: %v", src, narrow)
		}
	}
}
