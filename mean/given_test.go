package mean_test

import (
	"fmt"
	"math/big"
	"strings"
	"testing"

	"bluebell/api"
)

// P5.1: given procedures and selectors.

const heapCells = api.MemSize - api.HeapBase

func TestGivenValues(t *testing.T) {
	checkOut(t, "w(wrch(65)) ; let v = getvec(1) ; w(freevec(v)) ; w(freevec(0)) ; w(rdch())", "A0 0 0 -1 ")
	checkOut(t, "let f, g = wrch, muldiv ; f(66) ; w(g(6, 7, 2)) ; w(f = wrch) ; w(f = g) ; w(stop ~= f)", "B21 -1 0 -1 ")
	// Coroutines are procedures that can be passed on, but what they do is not told here.
	checkOut(t, "let f = createco ; w(f = createco) ; w(f = cowait) ; if deleteco do w(1) ; st := callco", "-1 0 1 ")
	for _, call := range []string{"createco(id, 10)", "createco(?, ?)", "callco(0, 1)", "cowait(1)", "deleteco(0)", "createco()", "callco()", "cowait()", "deleteco()", "createco(1, 2, 3)"} {
		checkWild(t, "w(1) ; "+call, "1 ")
		name, _, _ := strings.Cut(call, "(")
		checkWild(t, name+"(valof { w(2) ; resultis 1 }, 1)", "2 ")
	}
}

func TestStop(t *testing.T) {
	for _, f := range forms() {
		for _, n := range []int{0, 1, -1, 7, 32767, -32768, 32768, 40000, 65536, 1<<23 - 1, 1 << 23, 1<<31 - 1, -(1 << 31)} {
			r, _ := run(t, started("w(3) ; stop("+constant(n)+") ; w(4)"), f, "", enough)
			if r.Out != "3 " || r.End != api.Stopped || r.Code != norm(n, f) || r.Why != api.OK {
				t.Errorf("stop(%d) by %v: %v", n, f, r)
			}
		}
	}
	for _, src := range []string{
		"let start() be { f(3) ; wrch('B') } let f(n) be { if n = 0 do stop(5) ; f(n - 1) ; wrch('C') }",
		"let start() be { let x = 1 + valof { for i = 1 to 3 do switchon i into { case 2 : stop(5) } ; resultis 1 } ; wrch('B') }",
		"let start() = f(1, stop(5)) let f(x, y) = wrch(x)",
		"let start() = g(stop) let g(f) = f(5) + wrch(66)",
	} {
		r, narrow := run(t, strings.Replace(src, "start() be {", "start() be { wrch('A') ;", 1), form16, "", enough)
		if strings.TrimPrefix(r.Out, "A") != "" || r.End != api.Stopped || r.Code != 5 || !narrow {
			t.Errorf("%s: %v, %v", src, r, narrow)
		}
	}
	for _, src := range []string{"let start() be { wrch('A') ; finish ; wrch('B') }", "let start() be { wrch('A') ; f(2) } let f(n) be { if n = 0 do finish ; f(n - 1) ; wrch('B') }", "let start() = wrch('A') + valof { finish ; resultis wrch('B') }"} {
		if r, narrow := run(t, src, form16, "", enough); r.Out != "A" || r.End != api.Stopped || r.Code != 0 || !narrow {
			t.Errorf("%s: %v, %v", src, r, narrow)
		}
	}
}

func TestGetvec(t *testing.T) {
	for _, x := range []struct {
		items, want string
	}{
		{"let v = getvec(0) ; ! v := 4 ; w(! v) ; w(v ~= 0)", "4 -1 "},
		{"w(getvec(- 1)) ; w(getvec(- 2)) ; w(getvec(- 32767 - 1))", "0 0 0 "},
		{fmt.Sprintf("let v = getvec(%d) ; v ! %d := 5 ; v ! 0 := 6 ; w(v ! %d + v ! 0) ; w(getvec(0))", heapCells-1, heapCells-1, heapCells-1), "11 0 "},
		{fmt.Sprintf("w(getvec(%d)) ; w(getvec(32767)) ; let v = getvec(%d) ; w(v ~= 0)", heapCells, heapCells-1), "0 0 -1 "},
		{fmt.Sprintf("let u = getvec(9) ; w(getvec(%d)) ; let v = getvec(%d) ; w(v ~= 0) ; w(u = v) ; w(getvec(0))", heapCells-10, heapCells-11), "0 -1 0 0 "},
		{fmt.Sprintf("let u = getvec(9) ; freevec(u) ; w(getvec(%d)) ; let v = getvec(%d) ; freevec(v) ; w(getvec(0))", heapCells-10, heapCells-11), "0 0 "},
		{fmt.Sprintf("for i = 1 to %d do if getvec(0) = 0 do w(i) ; w(getvec(0)) ; w(getvec(- 1))", heapCells), "0 0 "},
		{"let u, v = getvec(2), getvec(2) ; u ! 2 := 1 ; v ! 0 := 2 ; w(u ! 2) ; w(u = v)", "1 0 "},
		{"let v = getvec(2) ; v ! 1 := v ; w(v ! 1 = v) ; freevec(v ! 1)", "-1 "},
	} {
		checkOut(t, x.items, x.want)
	}
	checkWild(t, "let v = getvec(3) ; w(1) ; w(v ! 2)", "1 ")
	checkWild(t, "let v = getvec(3) ; w(1) ; v ! 4 := 1", "1 ")
}

func TestFreevec(t *testing.T) {
	checkOut(t, "let v = getvec(3) ; freevec(v + 2 - 2) ; freevec(0) ; freevec(0) ; w(1)", "1 ")
	checkOut(t, "let u, v = getvec(3), getvec(3) ; v ! 0 := 5 ; freevec(u) ; w(v ! 0) ; freevec(v)", "5 ")
	for _, items := range []string{
		"let v = getvec(3) ; freevec(v) ; w(1) ; freevec(v)", "let v = getvec(3) ; w(1) ; freevec(v + 1)", "let v = getvec(3) ; w(1) ; freevec(v - 1)", "let v = getvec(3) ; freevec(v) ; w(1) ; freevec(v + 1)",
		"let v = vec 3 ; w(1) ; freevec(v)", "let x = 1 ; w(1) ; freevec(@ x)", "w(1) ; freevec(@ st)", "w(1) ; freevec(@ gl)", "w(1) ; freevec(table(1))", "w(1) ; freevec(\"a\")", "w(1) ; freevec(1)", "w(1) ; freevec(- 1)", "w(1) ; freevec(id)", "w(1) ; freevec(freevec)", "w(1) ; freevec(?)", "w(1) ; freevec(gl)",
		"let v = getvec(3) ; v ! 0 := 2 ; freevec(v) ; w(1) ; w(v ! 0)", "let v = getvec(3) ; freevec(v) ; w(1) ; v ! 0 := 2", "let v = getvec(3) ; v % 0 := 2 ; freevec(v) ; w(1) ; w(v % 0)",
	} {
		checkWild(t, items, "1 ")
	}
}

func TestMuldiv(t *testing.T) {
	numbers := []int{0, 1, -1, 3, -7, 300, -300, 32767, -32768, 65536, 1<<23 - 1, -(1 << 23), 1<<31 - 1, -(1 << 31)}
	for _, f := range forms() {
		for _, a := range numbers {
			for _, b := range numbers {
				for _, c := range numbers {
					src := fmt.Sprintf("let start() be stop(muldiv(%s, %s, %s))", constant(a), constant(b), constant(c))
					r, narrow := run(t, src, f, "", enough)
					x, y, z := norm(a, f), norm(b, f), norm(c, f)
					if z == 0 {
						if r.End != api.Fault || r.Why != api.ErrZero || r.Code != 0 {
							t.Fatalf("%s by %v: %v", src, f, r)
						}
						continue
					}
					product := new(big.Int).Mul(big.NewInt(int64(x)), big.NewInt(int64(y)))
					quotient := new(big.Int).Quo(product, big.NewInt(int64(z)))
					wantNarrow := fits(a) && fits(b) && fits(c) && fits(int(product.Int64())) && fits(int(quotient.Int64()))
					if r.End != api.Stopped || r.Code != norm(int(quotient.Int64()), f) || narrow != wantNarrow {
						t.Fatalf("%s by %v: %v, %v; want %v, %v", src, f, r, narrow, quotient, wantNarrow)
					}
				}
			}
		}
	}
}

// fits reports whether a number is from -32768 to 32767.
func fits(n int) bool {
	return -32768 <= n && n <= 32767
}

// selectors calls a function with each selector whose offset is 0.
func selectors(do func(size, shift int)) {
	for size := range 17 {
		for shift := range 17 - size {
			do(size, shift)
		}
	}
}

// bitsOf returns which bits of words a selector means: all from shift on if size is 0.
func bitsOf(size, shift int, f api.Form) int {
	last := shift + size
	if size == 0 {
		last = f.Bits
	}
	mask := 0
	for i := shift; i < last && i < f.Bits; i++ {
		mask |= 1 << i
	}
	return mask
}

func unsigned(n int, f api.Form) int {
	return n & (1<<f.Bits - 1)
}

func TestSelectorsAsValues(t *testing.T) {
	for _, f := range forms() {
		for _, word := range []int{0, 1, 0x5a5a, 0x7fff, -1, -32768, 0x5a5a5a5a, -0x12345678} {
			selectors(func(size, shift int) {
				src := fmt.Sprintf("static { s = %s } let start() be stop(slct(%d, %d, 0) of @ s)", constant(word), size, shift)
				r, narrow := run(t, src, f, "", enough)
				want := norm(unsigned(norm(word, f), f)&bitsOf(size, shift, f)>>shift, f)
				if r.End != api.Stopped || r.Code != want || narrow != (0 <= word && word <= 32767) {
					t.Fatalf("%s by %v: %v, %v; want %d", src, f, r, narrow, want)
				}
			})
		}
	}
}

func TestSelectorsAsLefts(t *testing.T) {
	t.Parallel()
	for _, f := range forms() {
		for _, old := range []int{0, 0x5a5a, 0x7fff, -1, -32768, 0x5a5a5a5a} {
			for _, right := range []int{0, 1, 0x33, 0x7fff, -1, -32768, 0x33333333} {
				selectors(func(size, shift int) {
					src := fmt.Sprintf("static { s = %s } let start() be { slct(%d, %d, 0) of @ s := %s ; stop(s) }", constant(old), size, shift, constant(right))
					r, narrow := run(t, src, f, "", enough)
					bits := bitsOf(size, shift, f)
					want := norm(unsigned(old, f)&^bits|unsigned(right<<shift, f)&bits, f)
					wantNarrow := 0 <= old && old <= 32767 && fits(right) && want >= 0 && want <= 32767
					if size == 0 {
						wantNarrow = wantNarrow && right >= 0 && right<<shift <= 32767
					}
					if r.End != api.Stopped || r.Code != want || narrow != wantNarrow {
						t.Fatalf("%s by %v: %v, %v; want %d, %v", src, f, r, narrow, want, wantNarrow)
					}
				})
			}
		}
	}
}

func TestSelectorsWithOffsets(t *testing.T) {
	pairs(`
		let v = table(1, 2, 3) ; w(slct(0, 0, 0) of v) ; w(slct(0, 0, 2) of v) ; w(slct(0, 0, 1) of (v + 1)) => 1 3 3
		let v = vec 255 ; v ! 255 := 9 ; w(slct(3, 0, 255) of v) ; slct(4, 4, 255) of v := 5 ; w(v ! 255) => 1 89
		let v = vec 1 ; v ! 1 := 0 ; slct(0, 0, 1) of v := 7 ; slct(1, 8, 1) of v := 3 ; w(v ! 1) => 263
		let v = vec 1 ; v ! 1 := 0 ; slct(4, 0, 1) of v, slct(4, 4, 1) of v := 17, 2 ; w(v ! 1) => 33`, func(items, want string) {
		checkOut(t, items, want+" ")
	})
	checkOut(t, "let v = vec 1 ; ! v := 1 ; slct(0, 0, 255) of (v - 255) := 6 ; w(! v)", "6 ")
	checkOut(t, "let s = 0 ; let p = @ s ; (true -> 1, 1 / 1) of p := 3 ; w(s) ; w((1 + 32 * 0 + 0) of p) ; w(1 of p)", "1 1 1 ")
	if r, _ := run(t, "manifest { low = slct(4, 0, 0) ; high = low + 32 * 4 } static { s = #35 } let start() be { high of @ s := low of @ s ; stop(s) }", form16, "", enough); r.Code != 0x55 {
		t.Errorf("%v", r)
	}
	for _, items := range []string{"let v = vec 1 ; v ! 0 := 1 ; w(1) ; id(slct(0, 0, 2) of v)", "let v = vec 1 ; w(1) ; slct(0, 0, 2) of v := 1", "let v = vec 1 ; w(1) ; id(slct(1, 0, 1) of v)", "let v = vec 1 ; w(1) ; slct(1, 0, 1) of v := 1", "let v = vec 1 ; w(1) ; slct(0, 0, 1) of v := 1", "let v = vec 1 ; ! v := 1 ; w(1) ; slct(0, 0, 0) of v := v"} {
		checkWild(t, items, "1 ")
	}
}
