package word

import "bluebell/api"

const (
	leastNarrow    = -32768 // a number from here to the greatest one is a word of every length
	greatestNarrow = 32767
	mostPlaces     = 15 // by which a shift may still be exact
)

// operator computes with words. Where its result is no word, it is exact all the same: no operator needs more than 64 bits.
type operator func(a, b, bits int) int

// operatorOf returns one operator rather than the table: interpreters call Apply at every step, and a copy of the table would double its time.
func operatorOf(op int) operator {
	table := [...]operator{
		api.Mul: func(a, b, _ int) int { return a * b },
		api.Div: func(a, b, _ int) int { return a / b },
		api.Rem: func(a, b, _ int) int { return a % b },
		api.Add: func(a, b, _ int) int { return a + b },
		api.Sub: func(a, b, _ int) int { return a - b },
		api.Shl: shiftLeft,
		api.Shr: shiftRight,
		api.And: func(a, b, _ int) int { return a & b },
		api.Or:  func(a, b, _ int) int { return a | b },
		api.Xor: func(a, b, _ int) int { return a ^ b },
		api.Eqv: func(a, b, _ int) int { return ^(a ^ b) },
		api.Eq:  func(a, b, _ int) int { return truth(a == b) },
		api.Ne:  func(a, b, _ int) int { return truth(a != b) },
		api.Lt:  func(a, b, _ int) int { return truth(a < b) },
		api.Le:  func(a, b, _ int) int { return truth(a <= b) },
		api.Gt:  func(a, b, _ int) int { return truth(a > b) },
		api.Ge:  func(a, b, _ int) int { return truth(a >= b) },
		api.Neg: func(a, _, _ int) int { return -a },
		api.Not: func(a, _, _ int) int { return ^a },
	}
	return table[op]
}

func shiftLeft(a, b, bits int) int {
	if b < 0 || b >= bits {
		return 0
	}
	return a << b
}

func shiftRight(a, b, bits int) int {
	if b < 0 || b >= bits {
		return 0
	}
	return unsigned(a, bits) >> b
}

func truth(holds bool) int {
	if holds {
		return -1
	}
	return 0
}

// Apply is described in P1.2.
func Apply(op, a, b, bits int) (int, api.Errno) {
	if err := check(op, b, bits); err != api.OK {
		return 0, err
	}
	result := operatorOf(op)(normed(a, bits), normed(b, bits), bits)
	return normed(result, bits), api.OK
}

// Exact is described in P1.2.
func Exact(op, a, b, bits int) (bool, api.Errno) {
	if err := check(op, b, bits); err != api.OK {
		return false, err
	}
	a, b = normed(a, bits), normed(b, bits)
	switch op {
	case api.Neg, api.Not:
		b = 0 // whatever it is, it is no operand
	case api.Shl, api.Shr:
		if a < 0 || b < 0 || b > mostPlaces {
			return false, api.OK
		}
	}
	if !narrow(a) || !narrow(b) {
		return false, api.OK
	}
	// The result is exact before it is normed, and norming leaves it as it is if it is narrow.
	return narrow(operatorOf(op)(a, b, bits)), api.OK
}

func check(op, b, bits int) api.Errno {
	switch {
	case !validBits(bits):
		return api.ErrForm
	case op < api.Mul || op > api.Not:
		return api.ErrRange
	case (op == api.Div || op == api.Rem) && normed(b, bits) == 0:
		return api.ErrZero
	}
	return api.OK
}

func narrow(v int) bool {
	return leastNarrow <= v && v <= greatestNarrow
}
