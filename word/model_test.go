package word_test

import (
	"math"
	"math/big"
	"slices"

	"bluebell/api"
)

// The tests hold the package against whole numbers of any size (math/big), which know nothing of words.

var lengths = []int{16, 24, 32}

var noLengths = []int{math.MinInt, -16, -1, 0, 1, 8, 15, 17, 20, 23, 25, 31, 33, 40, 48, 64, 128, 1 << 32, 1<<32 + 16, math.MaxInt}

func forms() []api.Form {
	var l []api.Form
	for _, bits := range lengths {
		l = append(l, api.Form{Bits: bits}, api.Form{Bits: bits, Big: true})
	}
	return l
}

func noForms() []api.Form {
	var l []api.Form
	for _, bits := range noLengths {
		l = append(l, api.Form{Bits: bits}, api.Form{Bits: bits, Big: true})
	}
	return l
}

// numbers has the numbers around which words of some length end, small ones, and the ends of int.
func numbers() []int {
	l := []int{math.MinInt, math.MinInt + 1, math.MaxInt - 1, math.MaxInt, 3, 5, 7, 10, 181, 300, 12345, -7, -181, -300, -12345}
	for _, bits := range []int{2, 8, 15, 16, 23, 24, 31, 32, 48} {
		for by := -1; by <= 1; by++ {
			l = append(l, 1<<bits+by, -(1<<bits)+by, bits+by, -bits+by)
		}
	}
	slices.Sort(l)
	return slices.Compact(l)
}

func eachPair(do func(a, b, bits int)) {
	l := numbers()
	for _, bits := range lengths {
		for _, a := range l {
			for _, b := range l {
				do(a, b, bits)
			}
		}
	}
}

func whole(v int) *big.Int {
	return big.NewInt(int64(v))
}

func power(bits int) *big.Int {
	return new(big.Int).Lsh(whole(1), uint(bits))
}

// modelUnsigned is v less as many powers of 2 as leave it from 0 to the power less one.
func modelUnsigned(v *big.Int, bits int) int {
	return int(new(big.Int).Mod(v, power(bits)).Int64())
}

func modelNorm(v *big.Int, bits int) int {
	u := modelUnsigned(v, bits)
	if whole(u).Cmp(power(bits-1)) >= 0 {
		return u - int(power(bits).Int64())
	}
	return u
}

func modelTruth(holds bool) *big.Int {
	if holds {
		return whole(-1)
	}
	return whole(0)
}

// modelOperator is the operator for whole numbers of any size, of words a and b; shifts by a number that is no place are 0.
func modelOperator(op, a, b, bits int) *big.Int {
	x, y, z := whole(a), whole(b), new(big.Int)
	switch op {
	case api.Mul:
		return z.Mul(x, y)
	case api.Div:
		return z.Quo(x, y)
	case api.Rem:
		return z.Rem(x, y)
	case api.Add:
		return z.Add(x, y)
	case api.Sub:
		return z.Sub(x, y)
	case api.And:
		return z.And(x, y)
	case api.Or:
		return z.Or(x, y)
	case api.Xor:
		return z.Xor(x, y)
	case api.Eqv:
		return z.Not(z.Xor(x, y))
	case api.Neg:
		return z.Neg(x)
	case api.Not:
		return z.Not(x)
	case api.Shl, api.Shr:
		if b < 0 || b >= bits {
			return z
		}
		if op == api.Shl {
			return z.Lsh(x, uint(b))
		}
		return z.Rsh(whole(modelUnsigned(x, bits)), uint(b))
	}
	return modelRelation(op, x.Cmp(y))
}

func modelRelation(op, order int) *big.Int {
	switch op {
	case api.Eq:
		return modelTruth(order == 0)
	case api.Ne:
		return modelTruth(order != 0)
	case api.Lt:
		return modelTruth(order < 0)
	case api.Le:
		return modelTruth(order <= 0)
	case api.Gt:
		return modelTruth(order > 0)
	}
	return modelTruth(order >= 0)
}

func modelNarrow(v *big.Int) bool {
	return v.Cmp(whole(-32768)) >= 0 && v.Cmp(whole(32767)) <= 0
}

// modelExact is Exact of the words a and b as P1.2 tells it, for each operator on its own.
func modelExact(op, a, b, bits int) bool {
	exact := modelOperator(op, a, b, bits)
	if op == api.Shl || op == api.Shr {
		if a < 0 || b < 0 || b > 15 {
			return false
		}
		exact = new(big.Int).Mul(whole(a), power(b))
		if op == api.Shr {
			exact = new(big.Int).Div(whole(a), power(b))
		}
	}
	oneOperand := op == api.Neg || op == api.Not
	operands := modelNarrow(whole(a)) && (oneOperand || modelNarrow(whole(b)))
	result := modelNorm(modelOperator(op, a, b, bits), bits)
	return operands && modelNarrow(exact) && whole(result).Cmp(exact) == 0
}
