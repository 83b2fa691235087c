package lex_test

import (
	"slices"
	"strings"
	"testing"

	"bluebell/api"
	"bluebell/lex"
)

// P2.2

func TestKeysAndSigns(t *testing.T) {
	if l := lex.Keys(); !slices.Equal(l, strings.Fields(modelKeys)) {
		t.Errorf("Keys = %v", l)
	}
	if l := lex.Signs(); !slices.Equal(l, strings.Fields(modelSigns)) {
		t.Errorf("Signs = %v", l)
	}
}

func TestKeysAndSignsAreNewMemory(t *testing.T) {
	keys, signs := lex.Keys(), lex.Signs()
	clear(keys)
	clear(signs)
	TestKeysAndSigns(t)
	checkTokens(t, "and(", key("and"), sign("("))
}

func TestIsName(t *testing.T) {
	for _, s := range []string{"a", "z", "a_", "a1", "x_1_y", "iff", "not", "an_d", "if_", "repeatwhil", strings.Repeat("a", api.MaxName), "b" + strings.Repeat("_", api.MaxName-1)} {
		if !lex.IsName(s) {
			t.Errorf("IsName(%q) is false", s)
		}
	}
	for _, s := range []string{"", "_", "_a", "1", "1a", "A", "aB", "a b", " a", "a ", "a\n", "a-b", "a$", "\x00", "a\x80", "é", strings.Repeat("a", api.MaxName+1), strings.Repeat("a", 100000)} {
		if lex.IsName(s) {
			t.Errorf("IsName(%q) is true", s)
		}
	}
	for _, s := range slices.Concat(strings.Fields(modelKeys), strings.Fields(modelSigns)) {
		if lex.IsName(s) {
			t.Errorf("IsName(%q) is true", s)
		}
	}
}

func TestIsNameIsWhatScanMakesANameOf(t *testing.T) {
	check := func(s string) {
		l, err, _ := modelScan(s)
		want := err == api.OK && len(l) == 2 && l[0] == name(s)
		if got := lex.IsName(s); got != want {
			t.Errorf("IsName(%q) is %v", s, got)
		}
	}
	eachShort(check)
	for _, s := range pieces() {
		check(s)
	}
}

// P2.4

func TestLine(t *testing.T) {
	for _, x := range []struct {
		src              string
		at, line, column int
	}{
		{"", 0, 1, 0}, {"a", 0, 1, 0}, {"a", 1, 1, 1},
		{"ab\ncd", 0, 1, 0}, {"ab\ncd", 1, 1, 1}, {"ab\ncd", 2, 1, 2}, {"ab\ncd", 3, 2, 0}, {"ab\ncd", 4, 2, 1}, {"ab\ncd", 5, 2, 2}, // a line feed is in the line that it ends
		{"\n", 0, 1, 0}, {"\n", 1, 2, 0}, {"\n\n\n", 2, 3, 0}, {"a\n\nb", 2, 2, 0}, {"a\n\nb", 3, 3, 0},
		{"\t\xc3\xa9\r\x00$", 6, 1, 6}, // bytes, not characters; only a line feed ends a line
		{strings.Repeat("ab\n", 100000), 299999, 100000, 2},
	} {
		line, column, err := lex.Line(x.src, x.at)
		if line != x.line || column != x.column || err != api.OK {
			t.Errorf("Line(%.20q, %d) = %d, %d, %d; want %d, %d", x.src, x.at, line, column, err, x.line, x.column)
		}
	}
}

func TestLineOfEveryByte(t *testing.T) {
	src := "let start() be {\n\n  write(\"a*n\") // b\n}\n"
	line, column := 1, 0
	for at := range len(src) + 1 {
		if l, c, err := lex.Line(src, at); l != line || c != column || err != api.OK {
			t.Errorf("Line(src, %d) = %d, %d, %d; want %d, %d", at, l, c, err, line, column)
		}
		column++
		if at < len(src) && src[at] == '\n' {
			line, column = line+1, 0
		}
	}
}

func TestLineOfNoByte(t *testing.T) {
	for _, src := range []string{"", "a", "a\nb", "\n"} {
		for _, at := range []int{-1 << 63, -1, len(src) + 1, 1<<63 - 1} {
			if line, column, err := lex.Line(src, at); line != 0 || column != 0 || err != api.ErrRange {
				t.Errorf("Line(%q, %d) = %d, %d, %d", src, at, line, column, err)
			}
		}
	}
}
