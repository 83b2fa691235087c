package word_test

import (
	"math"
	"testing"

	"bluebell/api"
	"bluebell/word"
)

// apply is Apply where no error is expected.
func apply(t *testing.T, op, a, b, bits int) int {
	t.Helper()
	w, e := word.Apply(op, a, b, bits)
	if e != api.OK {
		t.Fatalf("Apply(%d, %d, %d, %d): %d", op, a, b, bits, e)
	}
	return w
}

func divides(op int) bool {
	return op == api.Div || op == api.Rem
}

// P1.2

func TestApplyOfArithmetic(t *testing.T) {
	for _, x := range []struct{ op, a, b, bits, want int }{
		{api.Mul, 7, -6, 16, -42}, {api.Mul, 256, 256, 16, 0}, {api.Mul, 300, 300, 16, 24464}, {api.Mul, 300, 300, 24, 90000}, {api.Mul, -32768, -1, 16, -32768}, {api.Mul, 4096, 4096, 24, 0}, {api.Mul, -2147483648, -2147483648, 32, 0}, {api.Mul, 65536, 65535, 32, -65536},
		{api.Add, 32767, 1, 16, -32768}, {api.Add, 32767, 1, 24, 32768}, {api.Add, 8388607, 1, 24, -8388608}, {api.Add, 2147483647, 1, 32, -2147483648},
		{api.Sub, -32768, 1, 16, 32767}, {api.Sub, -32768, 1, 32, -32769}, {api.Sub, -8388608, 1, 24, 8388607}, {api.Sub, -2147483648, 1, 32, 2147483647},
		{api.Div, 7, 2, 16, 3}, {api.Div, -7, 2, 16, -3}, {api.Div, 7, -2, 16, -3}, {api.Div, -7, -2, 16, 3}, {api.Div, 1, 2, 32, 0}, {api.Div, 0, -3, 24, 0},
		{api.Rem, 7, 2, 16, 1}, {api.Rem, -7, 2, 16, -1}, {api.Rem, 7, -2, 16, 1}, {api.Rem, -7, -2, 16, -1}, {api.Rem, 6, 3, 32, 0},
		{api.Div, -32768, -1, 16, -32768}, {api.Div, -8388608, -1, 24, -8388608}, {api.Div, -2147483648, -1, 32, -2147483648},
		{api.Rem, -32768, -1, 16, 0}, {api.Rem, -8388608, -1, 24, 0}, {api.Rem, -2147483648, -1, 32, 0},
		{api.Div, -32768, -1, 24, 32768}, {api.Div, -8388608, -1, 32, 8388608},
		{api.Neg, 5, 9, 32, -5}, {api.Neg, 0, 0, 16, 0}, {api.Neg, -32768, 0, 16, -32768}, {api.Neg, -32768, 0, 24, 32768}, {api.Neg, -8388608, 0, 24, -8388608}, {api.Neg, -2147483648, 0, 32, -2147483648},
	} {
		if w := apply(t, x.op, x.a, x.b, x.bits); w != x.want {
			t.Errorf("Apply(%d, %d, %d, %d) = %d; want %d", x.op, x.a, x.b, x.bits, w, x.want)
		}
	}
}

func TestApplyOfShifts(t *testing.T) {
	for _, x := range []struct{ op, a, b, bits, want int }{
		{api.Shl, 3, 0, 16, 3}, {api.Shl, 3, 4, 16, 48}, {api.Shl, -3, 1, 16, -6}, {api.Shl, 1, 15, 16, -32768}, {api.Shl, 1, 15, 24, 32768}, {api.Shl, 1, 23, 24, -8388608}, {api.Shl, 1, 31, 32, -2147483648}, {api.Shl, 3, 15, 16, -32768}, {api.Shl, -2147483648, 31, 32, 0},
		{api.Shl, 1, 16, 16, 0}, {api.Shl, 1, 24, 24, 0}, {api.Shl, 1, 32, 32, 0}, {api.Shl, 1, 16, 24, 65536}, {api.Shl, 1, 100, 32, 0},
		{api.Shl, 5, -1, 16, 0}, {api.Shl, 5, -1, 32, 0}, {api.Shl, 5, -100, 24, 0},
		{api.Shr, 48, 4, 16, 3}, {api.Shr, 7, 1, 16, 3}, {api.Shr, -1, 0, 16, -1}, {api.Shr, -1, 1, 16, 32767}, {api.Shr, -1, 12, 16, 15}, {api.Shr, -1, 15, 16, 1}, {api.Shr, -1, 1, 24, 8388607}, {api.Shr, -1, 23, 24, 1}, {api.Shr, -1, 1, 32, 2147483647}, {api.Shr, -2147483648, 31, 32, 1},
		{api.Shr, -1, 16, 16, 0}, {api.Shr, -1, 24, 24, 0}, {api.Shr, -1, 32, 32, 0}, {api.Shr, -1, -1, 16, 0}, {api.Shr, 5, -1, 32, 0},
		{api.Shl, 1, 65537, 16, 2}, {api.Shr, 4, 65537, 16, 2}, {api.Shl, 1, 32768, 16, 0}, {api.Shl, 1, math.MaxInt, 32, 0}, {api.Shl, 9, math.MinInt, 32, 9}, {api.Shr, 65540, 1, 16, 2}, // the shift is normed first, and what is shifted
	} {
		if w := apply(t, x.op, x.a, x.b, x.bits); w != x.want {
			t.Errorf("Apply(%d, %d, %d, %d) = %d; want %d", x.op, x.a, x.b, x.bits, w, x.want)
		}
	}
}

func TestApplyOfBitsAndRelations(t *testing.T) {
	for _, x := range []struct{ op, a, b, bits, want int }{
		{api.And, 12, 10, 16, 8}, {api.Or, 12, 10, 16, 14}, {api.Xor, 12, 10, 16, 6}, {api.Eqv, 12, 10, 16, -7}, {api.Not, 0, 7, 24, -1}, {api.Not, 32767, 0, 16, -32768}, {api.And, -1, 32768, 16, -32768}, {api.And, -1, 32768, 24, 32768}, {api.Or, -32768, 1, 32, -32767}, {api.Not, -1, 0, 32, 0},
		{api.Eq, 3, 3, 16, -1}, {api.Eq, 3, 4, 16, 0}, {api.Ne, 3, 3, 16, 0}, {api.Ne, 3, 4, 16, -1},
		{api.Lt, -1, 0, 16, -1}, {api.Lt, 0, 0, 16, 0}, {api.Lt, 1, 0, 16, 0}, {api.Le, -1, 0, 24, -1}, {api.Le, 0, 0, 24, -1}, {api.Le, 1, 0, 24, 0},
		{api.Gt, -1, 0, 32, 0}, {api.Gt, 0, 0, 32, 0}, {api.Gt, 1, 0, 32, -1}, {api.Ge, -1, 0, 16, 0}, {api.Ge, 0, 0, 16, -1}, {api.Ge, 1, 0, 16, -1},
		{api.Lt, -32768, 32767, 16, -1}, {api.Lt, -2147483648, 2147483647, 32, -1}, // a difference would be no word
		{api.Eq, 65537, 1, 16, -1}, {api.Eq, 65537, 1, 24, 0}, {api.Lt, 40000, 0, 16, -1}, {api.Lt, 40000, 0, 24, 0}, {api.Gt, 1 << 32, 0, 32, 0}, // normed first
	} {
		if w := apply(t, x.op, x.a, x.b, x.bits); w != x.want {
			t.Errorf("Apply(%d, %d, %d, %d) = %d; want %d", x.op, x.a, x.b, x.bits, w, x.want)
		}
	}
}

func TestApplyOfAnyInt(t *testing.T) {
	eachPair(func(a, b, bits int) {
		x, y := modelNorm(whole(a), bits), modelNorm(whole(b), bits)
		for op := api.Mul; op <= api.Not; op++ {
			want, err := 0, api.ErrZero
			if !divides(op) || y != 0 {
				want, err = modelNorm(modelOperator(op, x, y, bits), bits), api.OK
			}
			if w, e := word.Apply(op, a, b, bits); w != want || e != err {
				t.Errorf("Apply(%d, %d, %d, %d) = %d, %d; want %d, %d", op, a, b, bits, w, e, want, err)
			}
		}
	})
}

func TestApplyAndExactErrors(t *testing.T) {
	for _, x := range []struct {
		op, b, bits int
		want        api.Errno
	}{
		{api.Div, 0, 16, api.ErrZero}, {api.Rem, 0, 24, api.ErrZero}, {api.Div, 0, 32, api.ErrZero}, {api.Div, 65536, 16, api.ErrZero}, {api.Rem, -1 << 24, 24, api.ErrZero}, {api.Div, math.MinInt, 32, api.ErrZero},
		{0, 1, 16, api.ErrRange}, {20, 1, 16, api.ErrRange}, {-1, 0, 24, api.ErrRange}, {math.MaxInt, 0, 32, api.ErrRange}, {math.MinInt, 0, 32, api.ErrRange},
		{0, 0, 8, api.ErrForm}, {api.Div, 0, 0, api.ErrForm}, {20, 0, 64, api.ErrForm}, {api.Add, 1, -16, api.ErrForm}, {api.Shl, 1, math.MinInt, api.ErrForm}, // the length is looked at first
	} {
		if w, e := word.Apply(x.op, 4, x.b, x.bits); w != 0 || e != x.want {
			t.Errorf("Apply(%d, 4, %d, %d) = %d, %d; want the error %d", x.op, x.b, x.bits, w, e, x.want)
		}
		if ok, e := word.Exact(x.op, 4, x.b, x.bits); ok || e != x.want {
			t.Errorf("Exact(%d, 4, %d, %d) = %v, %d; want the error %d", x.op, x.b, x.bits, ok, e, x.want)
		}
	}
	for _, bits := range noLengths {
		if w, e := word.Apply(api.Div, 4, 0, bits); w != 0 || e != api.ErrForm {
			t.Errorf("Apply by %d bits = %d, %d", bits, w, e)
		}
		if ok, e := word.Exact(api.Div, 4, 0, bits); ok || e != api.ErrForm {
			t.Errorf("Exact by %d bits = %v, %d", bits, ok, e)
		}
	}
}

func TestExact(t *testing.T) {
	for _, x := range []struct {
		op, a, b, bits int
		want           bool
	}{
		{api.Add, 1, 2, 16, true}, {api.Add, 32766, 1, 32, true}, {api.Add, 32767, 1, 16, false}, {api.Add, 32767, 1, 24, false}, {api.Sub, -32767, 1, 24, true}, {api.Sub, -32768, 1, 32, false},
		{api.Mul, 181, 181, 32, true}, {api.Mul, 182, 181, 32, false}, {api.Mul, 256, 256, 16, false}, {api.Mul, 16384, -2, 16, true},
		{api.Div, -7, 2, 16, true}, {api.Rem, -7, 2, 16, true}, {api.Div, -32768, -1, 16, false}, {api.Div, -32768, -1, 32, false}, {api.Rem, -32768, -1, 16, true},
		{api.Shl, 1, 14, 16, true}, {api.Shl, 1, 15, 16, false}, {api.Shl, 1, 15, 32, false}, {api.Shl, 0, 15, 16, true}, {api.Shl, 0, 15, 32, true}, {api.Shl, 0, 16, 16, false}, {api.Shl, 0, 16, 32, false}, {api.Shl, 0, -1, 32, false}, {api.Shl, -1, 0, 16, false}, {api.Shl, 32767, 0, 24, true},
		{api.Shr, 9, 15, 16, true}, {api.Shr, 9, 16, 16, false}, {api.Shr, 9, 16, 32, false}, {api.Shr, 9, -1, 24, false}, {api.Shr, 32767, 0, 16, true}, {api.Shr, 32768, 1, 24, false}, {api.Shr, -1, 1, 16, false}, {api.Shr, -2, 0, 32, false},
		{api.And, -32768, 32767, 32, true}, {api.Or, -32768, 32767, 16, true}, {api.Xor, -32768, 32767, 24, true}, {api.Eqv, -32768, 32767, 32, true}, {api.And, 32768, 0, 24, false}, {api.Or, 0, 32768, 32, false},
		{api.Eq, -32768, 32767, 32, true}, {api.Lt, 1, 2, 16, true}, {api.Ge, 40000, 1, 24, false}, {api.Ge, 1, 40000, 24, false}, {api.Eq, 40000, 1, 24, false},
		{api.Neg, 32767, 0, 16, true}, {api.Neg, -32768, 0, 16, false}, {api.Neg, -32768, 0, 24, false}, {api.Neg, 1, 40000, 24, true}, {api.Not, -32768, 40000, 32, true}, {api.Not, 40000, 0, 24, false}, {api.Neg, 40000, 0, 32, false},
		{api.Add, 65537, 65538, 16, true}, {api.Add, 65537, 65538, 24, false}, {api.Eq, 40000, 1, 16, true}, {api.Add, 1 << 32, 1, 32, true}, // operands are normed first
	} {
		if ok, e := word.Exact(x.op, x.a, x.b, x.bits); ok != x.want || e != api.OK {
			t.Errorf("Exact(%d, %d, %d, %d) = %v, %d; want %v", x.op, x.a, x.b, x.bits, ok, e, x.want)
		}
	}
}

func TestExactOfAnyInt(t *testing.T) {
	eachPair(func(a, b, bits int) {
		x, y := modelNorm(whole(a), bits), modelNorm(whole(b), bits)
		for op := api.Mul; op <= api.Not; op++ {
			want, err := false, api.ErrZero
			if !divides(op) || y != 0 {
				want, err = modelExact(op, x, y, bits), api.OK
			}
			if ok, e := word.Exact(op, a, b, bits); ok != want || e != err {
				t.Errorf("Exact(%d, %d, %d, %d) = %v, %d; want %v, %d", op, a, b, bits, ok, e, want, err)
			}
		}
	})
}

// P1.7

func TestWholeNumbersNormed(t *testing.T) {
	eachPair(func(a, b, bits int) {
		for _, op := range []int{api.Add, api.Sub, api.Mul} {
			// Not the words of a and b, but a and b themselves: norming goes with adding, subtracting, multiplying.
			if w, want := apply(t, op, a, b, bits), modelNorm(modelOperator(op, a, b, bits), bits); w != want {
				t.Errorf("Apply(%d, %d, %d, %d) = %d; want %d", op, a, b, bits, w, want)
			}
		}
	})
}

func TestDivAndRemGiveTheNumberBack(t *testing.T) {
	eachPair(func(a, b, bits int) {
		if modelNorm(whole(b), bits) == 0 {
			return
		}
		product := apply(t, api.Mul, b, apply(t, api.Div, a, b, bits), bits)
		sum := apply(t, api.Add, product, apply(t, api.Rem, a, b, bits), bits)
		if sum != modelNorm(whole(a), bits) {
			t.Errorf("%d / %d by %d bits: product and rest are %d", a, b, bits, sum)
		}
	})
}

func TestEqvIsNotOfXor(t *testing.T) {
	eachPair(func(a, b, bits int) {
		w, xor := apply(t, api.Eqv, a, b, bits), apply(t, api.Xor, a, b, bits)
		if want := apply(t, api.Not, xor, 0, bits); w != want {
			t.Errorf("Eqv of %d, %d by %d bits = %d; want %d", a, b, bits, w, want)
		}
	})
}

func TestShlIsMulByAPower(t *testing.T) {
	for _, bits := range lengths {
		for _, a := range numbers() {
			for n := range bits + 3 {
				if w, want := apply(t, api.Shl, a, n, bits), apply(t, api.Mul, a, 1<<n, bits); w != want {
					t.Errorf("Shl of %d by %d, by %d bits = %d; want %d", a, n, bits, w, want)
				}
			}
		}
	}
}

func TestExactBy16BitsHoldsByMore(t *testing.T) {
	eachPair(func(a, b, bits int) {
		x, y := modelNorm(whole(a), 16), modelNorm(whole(b), 16)
		for op := api.Mul; op <= api.Not; op++ {
			if ok, _ := word.Exact(op, x, y, 16); !ok {
				continue
			}
			if ok, e := word.Exact(op, x, y, bits); !ok || e != api.OK {
				t.Errorf("Exact(%d, %d, %d, %d) = %v, %d", op, x, y, bits, ok, e)
			}
			if w, want := apply(t, op, x, y, bits), apply(t, op, x, y, 16); w != want {
				t.Errorf("Apply(%d, %d, %d, %d) = %d; want %d", op, x, y, bits, w, want)
			}
		}
	})
}
