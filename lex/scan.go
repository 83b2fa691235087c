package lex

import (
	"math"
	"strconv"
	"strings"

	"bluebell/api"
)

// scanner has what does not change while a source is scanned.
type scanner struct {
	src   string
	keys  map[string]bool
	signs []string
}

// teller tells the token of one kind that begins at a byte, but for its place, and where it ends.
type teller func(at int) (t api.Token, end int, err api.Errno)

// Scan is described in P2.1.
func Scan(src string) ([]api.Token, api.Errno, int) {
	if len(src) > api.MaxSource {
		return nil, api.ErrLimit, 0
	}
	s := scanner{src: src, keys: keywords(), signs: Signs()}
	var l []api.Token
	for at := s.skip(0); at < len(src); {
		t, end, err := s.tellerOf(src[at])(at)
		if err == api.OK && len(l) == api.MaxTokens {
			err = api.ErrLimit
		}
		if err != api.OK {
			return nil, err, at
		}
		t.At = at
		l = append(l, t)
		at = s.skip(end)
	}
	if len(l) == api.MaxTokens {
		return nil, api.ErrLimit, len(src)
	}
	return append(l, api.Token{Kind: api.TEnd, At: len(src)}), api.OK, 0
}

func keywords() map[string]bool {
	m := map[string]bool{}
	for _, key := range Keys() {
		m[key] = true
	}
	return m
}

// skip returns where the next token begins: behind blanks, tabs, line feeds and comments.
func (s scanner) skip(at int) int {
	for {
		at = behind(s.src, at, isBlank)
		if !strings.HasPrefix(s.src[at:], "//") {
			return at
		}
		at = behind(s.src, at, isInLine)
	}
}

// tellerOf returns the method for the kind of token that begins with a byte.
func (s scanner) tellerOf(first byte) teller {
	switch {
	case isSmall(first):
		return s.word
	case isDigit(first):
		return s.number
	case first == '#':
		return s.base16
	case first == '\'':
		return s.character
	case first == '"':
		return s.text
	}
	return s.sign
}

func (s scanner) word(at int) (api.Token, int, api.Errno) {
	end := behind(s.src, at, isInName)
	name := s.src[at:end]
	if s.keys[name] {
		return api.Token{Kind: api.TKey, S: name}, end, api.OK
	}
	if len(name) > api.MaxName {
		return api.Token{}, 0, api.ErrLimit
	}
	return api.Token{Kind: api.TName, S: name}, end, api.OK
}

func (s scanner) number(at int) (api.Token, int, api.Errno) {
	end := behind(s.src, at, isDigit)
	n, err := strconv.ParseUint(s.src[at:end], 10, 64)
	if err != nil || n > math.MaxInt32 {
		return api.Token{}, 0, api.ErrBig
	}
	return api.Token{Kind: api.TNumber, N: int(n)}, end, api.OK
}

func (s scanner) base16(at int) (api.Token, int, api.Errno) {
	end := behind(s.src, at+1, isBase16)
	if end == at+1 {
		return api.Token{}, 0, api.ErrByte
	}
	n, err := strconv.ParseUint(s.src[at+1:end], 16, 64)
	if err != nil || n > math.MaxUint32 {
		return api.Token{}, 0, api.ErrBig
	}
	// As 32 bits with a sign, a number above 2^31 - 1 is the number less 2^32.
	return api.Token{Kind: api.TNumber, N: int(int32(n))}, end, api.OK
}

func (s scanner) character(at int) (api.Token, int, api.Errno) {
	c, end, ok := s.inside(at+1, '\'')
	if !ok || !s.has(end, '\'') {
		return api.Token{}, 0, api.ErrText
	}
	return api.Token{Kind: api.TNumber, N: int(c)}, end + 1, api.OK
}

func (s scanner) text(at int) (api.Token, int, api.Errno) {
	var b []byte
	end := at + 1
	for !s.has(end, '"') {
		c, next, ok := s.inside(end, '"')
		if !ok {
			return api.Token{}, 0, api.ErrText
		}
		b = append(b, c)
		end = next
	}
	if len(b) > api.MaxString {
		return api.Token{}, 0, api.ErrLimit
	}
	return api.Token{Kind: api.TString, S: string(b)}, end + 1, api.OK
}

// inside returns the byte that stands, perhaps as an escape, at a place within a character or string, and where it ends. It is not ok if the byte is missing, or may not stand there.
func (s scanner) inside(at int, quote byte) (c byte, end int, ok bool) {
	if at >= len(s.src) {
		return 0, 0, false
	}
	c = s.src[at]
	if c != '*' {
		return c, at + 1, isPlain(c) && c != quote
	}
	if at+1 >= len(s.src) {
		return 0, 0, false
	}
	c, ok = escaped(s.src[at+1])
	return c, at + 2, ok
}

// has reports whether a byte stands at a place.
func (s scanner) has(at int, c byte) bool {
	return at < len(s.src) && s.src[at] == c
}

func (s scanner) sign(at int) (api.Token, int, api.Errno) {
	longest := ""
	for _, sign := range s.signs {
		if len(sign) > len(longest) && strings.HasPrefix(s.src[at:], sign) {
			longest = sign
		}
	}
	if longest == "" {
		return api.Token{}, 0, api.ErrByte
	}
	return api.Token{Kind: api.TSign, S: longest}, at + len(longest), api.OK
}
