package word_test

import (
	"math"
	"math/big"
	"testing"

	"bluebell/api"
	"bluebell/word"
)

func TestValid(t *testing.T) {
	for _, f := range forms() {
		if !word.Valid(f) {
			t.Errorf("Valid(%v) is false", f)
		}
	}
	for _, f := range noForms() {
		if word.Valid(f) {
			t.Errorf("Valid(%v) is true", f)
		}
	}
}

// P1.1

func TestNormAndUnsignedAtTheEndsOfWords(t *testing.T) {
	for _, x := range []struct{ v, bits, norm, unsigned int }{
		{0, 16, 0, 0}, {-1, 16, -1, 65535}, {32767, 16, 32767, 32767}, {32768, 16, -32768, 32768}, {-32768, 16, -32768, 32768}, {-32769, 16, 32767, 32767}, {65536, 16, 0, 0}, {65537, 16, 1, 1},
		{32768, 24, 32768, 32768}, {8388607, 24, 8388607, 8388607}, {8388608, 24, -8388608, 8388608}, {-8388609, 24, 8388607, 8388607}, {16777216, 24, 0, 0}, {-1, 24, -1, 16777215},
		{8388608, 32, 8388608, 8388608}, {2147483647, 32, 2147483647, 2147483647}, {2147483648, 32, -2147483648, 2147483648}, {-2147483649, 32, 2147483647, 2147483647}, {4294967296, 32, 0, 0}, {-1, 32, -1, 4294967295},
		{math.MaxInt, 16, -1, 65535}, {math.MinInt, 16, 0, 0}, {math.MaxInt, 24, -1, 16777215}, {math.MinInt, 24, 0, 0}, {math.MaxInt, 32, -1, 4294967295}, {math.MinInt, 32, 0, 0},
	} {
		if w, e := word.Norm(x.v, x.bits); w != x.norm || e != api.OK {
			t.Errorf("Norm(%d, %d) = %d, %d; want %d", x.v, x.bits, w, e, x.norm)
		}
		if w, e := word.Unsigned(x.v, x.bits); w != x.unsigned || e != api.OK {
			t.Errorf("Unsigned(%d, %d) = %d, %d; want %d", x.v, x.bits, w, e, x.unsigned)
		}
	}
}

func TestNormAndUnsignedOfAnyInt(t *testing.T) {
	for _, bits := range lengths {
		for _, v := range numbers() {
			if w, e := word.Norm(v, bits); w != modelNorm(whole(v), bits) || e != api.OK {
				t.Errorf("Norm(%d, %d) = %d, %d", v, bits, w, e)
			}
			if w, e := word.Unsigned(v, bits); w != modelUnsigned(whole(v), bits) || e != api.OK {
				t.Errorf("Unsigned(%d, %d) = %d, %d", v, bits, w, e)
			}
		}
	}
}

func TestNormAndUnsignedByNoLength(t *testing.T) {
	for _, bits := range noLengths {
		if w, e := word.Norm(5, bits); w != 0 || e != api.ErrForm {
			t.Errorf("Norm(5, %d) = %d, %d", bits, w, e)
		}
		if w, e := word.Unsigned(5, bits); w != 0 || e != api.ErrForm {
			t.Errorf("Unsigned(5, %d) = %d, %d", bits, w, e)
		}
	}
}

// P1.3

func TestMulDiv(t *testing.T) {
	for _, x := range []struct{ a, b, c, bits, q, r int }{
		{6, 7, 4, 16, 10, 2}, {-6, 7, 4, 16, -10, -2}, {6, 7, -4, 16, -10, 2}, {-6, 7, -4, 16, 10, -2}, {-6, -7, -4, 16, -10, 2}, {1, 1, 2, 16, 0, 1}, {0, 9, 4, 16, 0, 0},
		{30000, 30000, -7, 16, 10204, 4}, // -128571428 and 4
		{300, 300, 1, 16, 24464, 0},      // the quotient is no word
		{300, 300, 400, 16, 225, 0},      // the product is no word
		{-32768, -32768, -32768, 16, -32768, 0}, {-32768, 1, -1, 16, -32768, 0}, {-32768, -32768, 32767, 16, -32767, 1},
		{65537, 65538, 65539, 16, 0, 2}, // 1 * 2 / 3
		{5, 7, 65537, 24, 0, 35},        // the divisor is a word of 24 bits
		{8388607, 8388607, 8388607, 24, 8388607, 0},
		{-2147483648, -2147483648, -2147483648, 32, -2147483648, 0}, {-2147483648, -2147483648, 2147483647, 32, -2147483647, 1},
		{-2147483648, 2147483647, 2147483646, 32, 2147483647, -2}, {math.MaxInt, math.MaxInt, math.MaxInt, 32, -1, 0},
	} {
		if q, r, e := word.MulDiv(x.a, x.b, x.c, x.bits); q != x.q || r != x.r || e != api.OK {
			t.Errorf("MulDiv(%d, %d, %d, %d) = %d, %d, %d; want %d, %d", x.a, x.b, x.c, x.bits, q, r, e, x.q, x.r)
		}
	}
}

func TestMulDivIsExact(t *testing.T) {
	l, i := numbers(), 0
	eachPair(func(a, b, bits int) {
		i = (i + 1) % len(l)
		for _, c := range []int{b, l[i], l[len(l)-1-i]} {
			checkMulDiv(t, a, b, c, bits)
		}
	})
}

func checkMulDiv(t *testing.T, a, b, c, bits int) {
	t.Helper()
	divisor := modelNorm(whole(c), bits)
	q, r, e := word.MulDiv(a, b, c, bits)
	if divisor == 0 {
		if q != 0 || r != 0 || e != api.ErrZero {
			t.Errorf("MulDiv(%d, %d, %d, %d) = %d, %d, %d; want ErrZero", a, b, c, bits, q, r, e)
		}
		return
	}
	product := new(big.Int).Mul(whole(modelNorm(whole(a), bits)), whole(modelNorm(whole(b), bits)))
	quotient, rest := new(big.Int).QuoRem(product, whole(divisor), new(big.Int))
	if q != modelNorm(quotient, bits) || r != modelNorm(rest, bits) || e != api.OK {
		t.Errorf("MulDiv(%d, %d, %d, %d) = %d, %d, %d; want the words of %v, %v", a, b, c, bits, q, r, e, quotient, rest)
	}
}

func TestMulDivErrors(t *testing.T) {
	for _, bits := range lengths {
		for _, c := range []int{0, 1 << bits, -1 << bits, math.MinInt} {
			if q, r, e := word.MulDiv(3, 4, c, bits); q != 0 || r != 0 || e != api.ErrZero {
				t.Errorf("MulDiv(3, 4, %d, %d) = %d, %d, %d", c, bits, q, r, e)
			}
		}
	}
	for _, bits := range noLengths {
		if q, r, e := word.MulDiv(3, 4, 0, bits); q != 0 || r != 0 || e != api.ErrForm {
			t.Errorf("MulDiv(3, 4, 0, %d) = %d, %d, %d", bits, q, r, e)
		}
	}
}
