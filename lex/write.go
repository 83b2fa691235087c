package lex

import (
	"math"
	"strconv"
	"strings"

	"bluebell/api"
)

// Quote is described in P2.3.
func Quote(s string) (string, api.Errno) {
	b := []byte{'"'}
	for i := range len(s) {
		c := s[i]
		letter, ok := escapeOf(c)
		switch {
		case ok:
			b = append(b, '*', letter)
		case isPlain(c):
			b = append(b, c)
		default:
			return "", api.ErrForm
		}
	}
	if len(s) > api.MaxString {
		return "", api.ErrLimit
	}
	b = append(b, '"')
	return string(b), api.OK
}

// Number is described in P2.3.
func Number(n int) (string, api.Errno) {
	if n < math.MinInt32 || n > math.MaxInt32 {
		return "", api.ErrRange
	}
	if n >= 0 {
		return strconv.Itoa(n), api.OK
	}
	// The highest of the 32 bits is set: there are eight digits.
	return "#" + strconv.FormatUint(uint64(uint32(n)), 16), api.OK
}

// Text is described in P2.5.
func Text(l []api.Token) (string, api.Errno) {
	var words []string
	for _, t := range l {
		s, ok := written(t)
		if !ok {
			return "", api.ErrForm
		}
		if t.Kind == api.TEnd {
			break
		}
		words = append(words, s)
	}
	return strings.Join(words, " "), api.OK
}

// written returns a token's text. It is not ok if Scan never makes such a token.
func written(t api.Token) (s string, ok bool) {
	switch t.Kind {
	case api.TNumber:
		number, err := Number(t.N)
		return number, err == api.OK && t.S == ""
	case api.TString:
		quoted, err := Quote(t.S)
		return quoted, err == api.OK && t.N == 0
	case api.TName:
		return t.S, IsName(t.S) && t.N == 0
	case api.TKey:
		return t.S, isKey(t.S) && t.N == 0
	case api.TSign:
		return t.S, isSign(t.S) && t.N == 0
	case api.TEnd:
		return "", t.S == "" && t.N == 0
	}
	return "", false
}
