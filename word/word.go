// Package word is layer 1, words: see shared/doc/01-word.md.
package word

import "bluebell/api"

// Valid is described in shared/doc/01-word.md.
func Valid(f api.Form) bool {
	return validBits(f.Bits)
}

// Norm is described in P1.1.
func Norm(v, bits int) (int, api.Errno) {
	if !validBits(bits) {
		return 0, api.ErrForm
	}
	return normed(v, bits), api.OK
}

// Unsigned is described in P1.1.
func Unsigned(v, bits int) (int, api.Errno) {
	if !validBits(bits) {
		return 0, api.ErrForm
	}
	return unsigned(v, bits), api.OK
}

// MulDiv is described in P1.3.
func MulDiv(a, b, c, bits int) (q, r int, err api.Errno) {
	if !validBits(bits) {
		return 0, 0, api.ErrForm
	}
	divisor := normed(c, bits)
	if divisor == 0 {
		return 0, 0, api.ErrZero
	}
	// The product of two words has at most 63 bits: it is exact.
	product := normed(a, bits) * normed(b, bits)
	return normed(product/divisor, bits), normed(product%divisor, bits), api.OK
}

func validBits(bits int) bool {
	return bits == 16 || bits == 24 || bits == 32
}

// normed takes valid bits only, as the functions below do.
func normed(v, bits int) int {
	above := 64 - bits
	return int(int64(v) << above >> above)
}

func unsigned(v, bits int) int {
	return v & (1<<bits - 1)
}
