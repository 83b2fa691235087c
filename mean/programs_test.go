package mean_test

import (
	"testing"

	"bluebell/api"
)

// P5.1: what programs do that are tame.

func TestExamples(t *testing.T) {
	for _, f := range forms() {
		r, narrow := run(t, "let start() be wrch('A')", f, "", enough)
		if want := (api.Result{Out: "A", End: api.Done, Steps: 4}); r != want || !narrow {
			t.Errorf("by %v: %v, %v", f, r, narrow)
		}
		r, narrow = run(t, "let start() be { let v = vec 1 ; v ! 2 := 0 }", f, "", enough)
		if r.End != api.Wild || narrow {
			t.Errorf("by %v: %v, %v", f, r, narrow)
		}
	}
}

func TestExpressions(t *testing.T) {
	pairs(`
		w(5) => 5
		w(#ff) => 255
		w('a') => 97
		w(true) ; w(false) => -1 0
		let x = ? ; x := 3 ; w(x) => 3
		let s = "ab" ; w(s % 0) ; w(s % 1) ; w(s % 2) => 2 97 98
		w("" % 0) => 0
		w(st) ; st := st + 1 ; w(st) => 7 8
		gl := 4 ; w(gl) => 4
		w(gp(6)) ; w(id(7)) ; w(no(8)) => 6 7 0
		let f = id ; w(f(3)) ; f := gp ; w(f(4)) => 3 4
		w((true -> id, no)(9)) => 9
		let v = vec 2 ; v ! 0, v ! 1, v ! 2 := 4, 5, 6 ; w(v ! 1) ; w(2 ! v) ; w(! v) ; w(!(v + 1)) ; w(!(2 + v)) => 5 6 4 5 6
		let v = vec 2 ; ! v, !(v + 2) := 1, 3 ; 1 ! v := 2 ; w(v ! 0) ; w(v ! 1) ; w(v ! 2) => 1 2 3
		let v = vec 2 ; let p = @(v ! 1) ; p ! 1 := 8 ; p ! (- 1) := 9 ; w(v ! 2) ; w(v ! 0) => 8 9
		let v = vec 2 ; let p = @(1 ! v) ; ! p := 8 ; w(v ! 1) => 8
		let x = 1 ; let p = @ x ; ! p := 2 ; w(x) ; x := 3 ; w(! p) => 2 3
		let p = @ st ; ! p := 9 ; w(st) ; p := @ gl ; ! p := 10 ; w(gl) => 9 10
		let x = 4 ; let p = @ x ; w(!(@ ! p)) ; w(@ ! p = @ x) => 4 -1
		w(1 + 2 * 3 - 4) ; w(17 / 5) ; w(- 17 / 5) ; w(17 rem 5) ; w(- 17 rem 5) => 3 3 -3 2 -2
		w(12 & 10) ; w(12 | 10) ; w(12 xor 10) ; w((12 eqv 10) & 15) ; w((~ 12) & 15) => 8 14 6 9 3
		w(3 << 2) ; w(12 >> 2) ; w(1 << 40) ; w(1 >> 40) => 12 3 0 0
		w(1 = 1) ; w(1 ~= 1) ; w(1 < 2) ; w(1 <= 2) ; w(1 > 2) ; w(1 >= 2) => -1 0 -1 -1 0 0
		w(true -> 1, 2) ; w(false -> 1, 2) ; w(true -> 1, 1 / 0) ; w(false -> 1 / 0, 3) => 1 2 1 3
		w(2 -> 1, 2) ; w(- 1 -> 1, 2) ; w(@ st -> 1, 2) ; w(id -> 1, 2) ; w(wrch -> 1, 2) ; w("" -> 1, 2) => 1 1 1 1 1 1
		w(valof { w(1) ; resultis 2 ; w(3) }) => 1 2
		w(valof { w(1) }) => 1 0
		w(valof { resultis valof { resultis 4 } + 1 }) => 5
		w(table(4, 5 * 2, 6 << 1) ! 1) ; w(table(4, 5 * 2, 6 << 1) ! 2) => 10 12
		w(slct(3, 4, 5)) => 5251
		w(slct(4, 4, 1) of table(0, 128 + 55)) => 11
		w(muldiv(100, 200, 300)) => 66
		w(- (- 3)) ; w(~ ~ 3) => 3 3
		let v = getvec(2) ; v ! 2 := 5 ; w(v ! 2) ; freevec(v) => 5`, func(items, want string) {
		checkOut(t, items, want+" ")
	})
}

func TestCommands(t *testing.T) {
	pairs(`
		let a, b = 1, 2 ; a, b := b, a ; w(a) ; w(b) => 2 2
		let v = vec 1 ; let i = 0 ; i, v ! i := 1, 5 ; w(v ! 1) => 5
		if 1 do w(1) ; if 0 do w(2) ; unless 1 do w(3) ; unless 0 do w(4) => 1 4
		test 1 then w(1) else w(2) ; test 0 then w(1) else w(2) => 1 2
		let i = 0 ; while i < 3 do { w(i) ; i := i + 1 } => 0 1 2
		let i = 0 ; until i = 3 do { w(i) ; i := i + 1 } => 0 1 2
		while false do w(1) ; until true do w(2) ; w(3) => 3
		let i = 0 ; { w(i) ; i := i + 1 } repeatwhile i < 3 => 0 1 2
		let i = 0 ; { w(i) ; i := i + 1 } repeatuntil i = 3 => 0 1 2
		w(1) repeatuntil true ; w(2) repeatwhile false => 1 2
		let i = 0 ; { w(i) ; i := i + 1 ; if i = 3 do break } repeat => 0 1 2
		let i = 0 ; i := i + 1 repeatwhile i < 3 repeatuntil i = 5 ; w(i) => 5
		let i = 0 ; while i < 5 do { i := i + 1 ; if i = 2 do loop ; if i = 4 do break ; w(i) } ; w(i) => 1 3 4
		let i = 0 ; until i = 5 do { i := i + 1 ; if i = 2 do loop ; if i = 4 do break ; w(i) } ; w(i) => 1 3 4
		let i = 0 ; { i := i + 1 ; if i = 2 do loop ; if i = 4 do break ; w(i) } repeat ; w(i) => 1 3 4
		let i = 0 ; { i := i + 1 ; if i = 2 do loop ; w(i) } repeatwhile i < 3 => 1 3
		let i = 0 ; { i := i + 1 ; if i = 3 do loop ; w(i) } repeatuntil i = 3 => 1 2
		let i = 0 ; { i := i + 1 ; if i = 2 do break ; w(i) } repeatwhile true ; w(9) => 1 9
		for i = 1 to 5 do { if i = 2 do loop ; if i = 4 do break ; w(i) } ; w(9) => 1 3 9
		for i = 1 to 2 do for j = 1 to 3 do { if j = 2 do break ; w(i * 10 + j) } => 11 21
		for i = 1 to 3 do { switchon i into { case 1 : loop ; case 2 : break } ; w(i) } => 
		for i = 1 to 3 do switchon i into { case 1 : loop ; case 2 : endcase ; default : w(i) } ; w(9) => 3 9
		switchon 1 into { case 1 : { w(1) ; endcase ; w(2) } ; w(3) } ; w(4) => 1 4
		switchon 1 into { case 1 : for i = 1 to 3 do { w(i) ; if i = 2 do endcase } ; w(8) } ; w(9) => 1 2 9
		switchon 1 into { case 1 : switchon 2 into { case 2 : w(1) ; endcase ; w(2) } ; w(3) ; endcase ; w(4) } => 1 3
		let i = 0 ; l : w(i) ; i := i + 1 ; if i < 3 do goto l => 0 1 2
		{ w(1) ; { } ; ; w(2) } => 1 2
		id(w(1)) ; no(w(2)) => 1 2`, func(items, want string) {
		if want != "" {
			want += " "
		}
		checkOut(t, items, want)
	})
	for src, want := range map[string]string{
		"let start() be { f(1) ; f(2) } let f(x) be { if x = 1 do return ; w(x) }":                                  "2 ",
		"let start() be { f() ; w(2) } let f() be { for i = 1 to 3 do { { w(i) ; return } repeat } ; w(9) }":        "1 2 ",
		"let start() be { w(1) ; return ; w(2) }":                                                                   "1 ",
		"let start() be w(f(1)) let f(x) = valof { for i = x to 9 do if i * i > 20 do resultis i ; resultis 99 }":   "5 ",
		"let start() be w(f(1)) let f(x) = valof { let a = valof { let b = x ; resultis b + 1 } ; resultis a + x }": "3 ",
	} {
		if r, _ := run(t, src+writer, form16, "", enough); r.Out != want || r.End != api.Done {
			t.Errorf("%s: %v; want %q", src, r, want)
		}
	}
}

func TestNames(t *testing.T) {
	for src, want := range map[string]string{
		"manifest { a = 2 ; b = a * 3 } static { s = b + 1 } let start() be { w(a) ; w(b) ; w(s) }":                                              "2 6 7 ",
		"manifest { a = true } static { s = a -> 4, 5 ; u = - 1 ; v = slct(1, 1, 1) } let start() be { w(a) ; w(s) ; w(u) ; w(v) }":              "-1 4 -1 1057 ",
		"static { s = 1 } let start() be { let s = s + 1 ; w(s) ; { let s = s + 1 ; w(s) ; f(s) } ; w(s) } let f(s) be { let s = s + 1 ; w(s) }": "2 3 4 2 ",
		"let start() be { let x = 1 ; let x = x + 1 ; let x = x + 1 ; w(x) }":                                                                    "3 ",
		"let start() be { let x, y = 1, 2 ; let x, y = y, x ; w(x) ; w(y) }":                                                                     "2 1 ",
		"let start() be { let x = 1 ; let p = @ x ; let x = 2 ; w(x) ; w(! p) }":                                                                 "2 1 ",
		"let start() be { for i = 1 to 2 do { let i = i + 5 ; w(i) } }":                                                                          "6 7 ",
		"let start() be { let i = 7 ; for i = i to i + 1 do w(i) ; w(i) }":                                                                       "7 8 7 ",
		"manifest { m = 5 } let start() be { w(m) ; { let m = 6 ; w(m) } ; w(m) }":                                                               "5 6 5 ",
		"let start() be { let wrch = id ; w(wrch(65)) ; v() } let id(x) = x let v() be wrch(66)":                                                 "65 B",
		"let start() be for start = 1 to 2 do w(start)":                                                                                          "1 2 ",
		"global { g : 12 } let start() be { g := 5 ; f() ; w(g) } let f() be g := g + 1":                                                         "6 ",
		"global { g : 12 } let start() be w(g(4)) let g(x) = x * x":                                                                              "16 ",
		"let start() be w(g(4)) let g(x) = x * x global { g : 199 }":                                                                             "16 ",
		"section \"s\" let start() be w(g(4)) and g(x) = x = 0 -> 0, x + g(x - 1)":                                                               "10 ",
		"let start() = f(1) let f(x) be { w(x) ; return ; w(2) }":                                                                                "1 ",
		"let start() be f(3) let f(n) be { let m = n ; if n > 1 do f(n - 1) ; w(m) }":                                                            "1 2 3 ",
		"let start() be { let x = 1 ; f(@ x, 3) ; w(x) } let f(p, n) be { ! p := ! p + n ; if n > 0 do f(p, n - 1) }":                            "7 ",
		"let start() be w(f(1, 2, 3, 4, 5, 6, 7, 8)) let f(a, b, c, d, e, f, g, h) = a + 10 * (h - b)":                                           "61 ",
	} {
		for _, f := range forms() {
			if r, _ := run(t, src+writer, f, "", enough); r.Out != want || r.End != api.Done {
				t.Errorf("%s by %v: %v; want %q", src, f, r, want)
			}
		}
	}
}

// A string or table is one object for its place, whatever runs there.
func TestTextsAndTables(t *testing.T) {
	for src, want := range map[string]string{
		"let start() be { w(f()) ; w(f()) ; w(f()) } let f() = valof { let t = table(1) ; ! t := ! t + 1 ; resultis ! t }":    "2 3 4 ",
		"let start() be { w(f()) ; w(f()) } let f() = valof { let s = \"a\" ; s % 1 := s % 1 + 1 ; resultis s % 1 }":          "98 99 ",
		"let start() be { let s, t = \"a\", \"a\" ; s % 1 := 'b' ; w(s = t) ; w(t % 1) }":                                     "0 97 ",
		"let start() be { let s, t = table(1), table(1) ; ! s := 2 ; w(s = t) ; w(! t) }":                                     "0 1 ",
		"let start() be { w(f() = f()) ; w(g() = g()) ; f() % 1 := 'q' ; w(f() % 1) } let f() = \"ab\" let g() = table(1, 2)": "-1 -1 113 ",
		"let start() be { let s = \"abc\" ; s % 0 := 2 ; w(s % 0) ; w(s % 3) }":                                               "2 99 ",
	} {
		for _, f := range forms() {
			// Twice, since nothing may be kept from run to run.
			for range 2 {
				if r, _ := run(t, src+writer, f, "", enough); r.Out != want || r.End != api.Done {
					t.Errorf("%s by %v: %v; want %q", src, f, r, want)
				}
			}
		}
	}
}

func TestOrder(t *testing.T) {
	pairs(`
		w(valof { w(1) ; resultis 5 } - valof { w(2) ; resultis 3 }) => 1 2 2
		w(two(valof { w(1) ; resultis 5 }, valof { w(2) ; resultis 3 })) => 1 2 5
		w((valof { w(2) ; resultis id })(valof { w(1) ; resultis 5 })) => 1 2 5
		w(valof { w(1) ; resultis table(4, 5) } ! valof { w(2) ; resultis 1 }) => 1 2 5
		w(valof { w(1) ; resultis "a" } % valof { w(2) ; resultis 1 }) => 1 2 97
		let v = vec 1 ; valof { w(2) ; resultis v } ! valof { w(3) ; resultis 0 } := valof { w(1) ; resultis 9 } ; w(! v) => 1 2 3 9
		let v = vec 1 ; valof { w(2) ; resultis v } % valof { w(3) ; resultis 0 } := valof { w(1) ; resultis 9 } ; w(v % 0) => 1 2 3 9
		let v = vec 1 ; ! valof { w(2) ; resultis v } := valof { w(1) ; resultis 9 } ; w(! v) => 1 2 9
		let x = 0 ; slct(4, 0, 0) of valof { w(1) ; resultis @ x } := valof { w(2) ; x := 16 ; resultis 9 } ; w(x) => 1 2 25
		let a, b = valof { w(1) ; resultis 5 }, valof { w(2) ; resultis 6 } ; w(a) ; w(b) => 1 2 5 6
		let a, b = 0, 0 ; a, b := valof { w(1) ; resultis 5 }, valof { w(a) ; resultis 6 } ; w(b) => 1 5 6
		for i = valof { w(1) ; resultis 3 } to valof { w(2) ; resultis 4 } do w(i) => 1 2 3 4
		w(valof { w(1) ; resultis 0 } & valof { w(2) ; resultis 3 }) => 1 2 0
		w(valof { w(1) ; resultis 1 } | valof { w(2) ; resultis 2 }) => 1 2 3
		w(valof { w(1) ; resultis 0 } -> valof { w(2) ; resultis 3 }, valof { w(3) ; resultis 4 }) => 1 3 4
		w(muldiv(valof { w(1) ; resultis 6 }, valof { w(2) ; resultis 7 }, valof { w(3) ; resultis 2 })) => 1 2 3 21`, func(items, want string) {
		checkOut(t, items, want+" ")
	})
}

func TestInput(t *testing.T) {
	copier := "let start() be { let c = rdch() ; until c < 0 do { wrch(c) ; c := rdch() } ; w(c) ; w(rdch()) }" + writer
	all := make([]byte, 256)
	for i := range all {
		all[i] = byte(i)
	}
	for _, input := range []string{"", "a", "abc\n", string(all)} {
		for _, f := range forms() {
			if r, _ := run(t, copier, f, input, enough); r.Out != input+"-1 -1 " || r.End != api.Done {
				t.Errorf("%q by %v: %v", input, f, r)
			}
		}
	}
	checkOut(t, "wrch(65 + 256) ; wrch(66 - 512)", "AB")
}
