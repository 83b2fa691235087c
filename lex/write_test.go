package lex_test

import (
	"math"
	"slices"
	"strings"
	"testing"

	"bluebell/api"
	"bluebell/lex"
)

// P2.3

func TestQuote(t *testing.T) {
	most := strings.Repeat("s", api.MaxString)
	for s, want := range map[string]string{
		"": `""`, "a": `"a"`, "a b": `"a b"`, "it's": `"it's"`, "\n": `"*n"`, "\t": `"*t"`, "*": `"**"`, `"`: `"*""`, "*n": `"**n"`, "// {}~": `"// {}~"`,
		"a*\"\n\t' ": `"a***"*n*t' "`, most: `"` + most + `"`, strings.Repeat("\n", api.MaxString): `"` + strings.Repeat("*n", api.MaxString) + `"`,
	} {
		if q, err := lex.Quote(s); q != want || err != api.OK {
			t.Errorf("Quote(%q) = %q, %d; want %q", s, q, err, want)
		}
	}
}

func TestQuoteOfEveryByte(t *testing.T) {
	for c := 0; c < 256; c++ {
		s := string([]byte{byte(c)})
		want, wantErr := `"`+s+`"`, api.OK
		switch {
		case c == '\n':
			want = `"*n"`
		case c == '\t':
			want = `"*t"`
		case c == '*' || c == '"':
			want = `"*` + s + `"`
		case c < 32 || c > 126:
			want, wantErr = "", api.ErrForm
		}
		if q, err := lex.Quote(s); q != want || err != wantErr {
			t.Errorf("Quote(%q) = %q, %d; want %q, %d", s, q, err, want, wantErr)
		}
	}
}

func TestQuoteErrors(t *testing.T) {
	long := strings.Repeat("s", api.MaxString+1)
	for s, want := range map[string]api.Errno{
		long: api.ErrLimit, long + long: api.ErrLimit, strings.Repeat("\n", api.MaxString+1): api.ErrLimit,
		"a\x00": api.ErrForm, "\r": api.ErrForm, "é": api.ErrForm, long + "\x7f": api.ErrForm, "\x80" + long: api.ErrForm, // ErrForm comes first
	} {
		if q, err := lex.Quote(s); q != "" || err != want {
			t.Errorf("Quote(%q) = %q, %d; want %d", s, q, err, want)
		}
	}
}

func TestNumber(t *testing.T) {
	for n, want := range map[int]string{
		0: "0", 7: "7", 10: "10", 65535: "65535", 1<<31 - 1: "2147483647",
		-1: "#ffffffff", -2: "#fffffffe", -16: "#fffffff0", -65536: "#ffff0000", -1<<31 + 1: "#80000001", -1 << 31: "#80000000",
	} {
		if s, err := lex.Number(n); s != want || err != api.OK {
			t.Errorf("Number(%d) = %q, %d; want %q", n, s, err, want)
		}
	}
	for _, n := range []int{1 << 31, 1<<32 - 1, 1 << 32, math.MaxInt, -1<<31 - 1, -1 << 32, math.MinInt} {
		if s, err := lex.Number(n); s != "" || err != api.ErrRange {
			t.Errorf("Number(%d) = %q, %d", n, s, err)
		}
	}
}

// P2.5

func checkText(t *testing.T, want string, l ...api.Token) {
	t.Helper()
	if s, err := lex.Text(l); s != want || err != api.OK {
		t.Errorf("Text(%v) = %q, %d; want %q", l, s, err, want)
	}
}

func TestText(t *testing.T) {
	checkText(t, "")
	checkText(t, "", end())
	checkText(t, "a", name("a"))
	checkText(t, "a", name("a"), end())
	checkText(t, `let x := "a*n*"" -> #fffffff9 12 + + b`, key("let"), name("x"), sign(":="), text("a\n\""), sign("->"), number(-7), number(12), sign("+"), sign("+"), name("b"))
	checkText(t, `/ / < = "" 0`, sign("/"), sign("/"), sign("<"), sign("="), text(""), number(0)) // a blank keeps signs apart
	checkText(t, "a b", api.Token{Kind: api.TName, S: "a", At: 9}, api.Token{Kind: api.TName, S: "b", At: -1}, api.Token{Kind: api.TEnd, At: 1 << 40})
	for _, k := range lex.Keys() {
		checkText(t, k+" "+k, key(k), key(k))
	}
	for _, s := range lex.Signs() {
		checkText(t, s+" "+s, sign(s), sign(s))
	}
}

func TestTextEndsAtATEnd(t *testing.T) {
	checkText(t, "a", name("a"), end(), name("b"))
	checkText(t, "a", name("a"), end(), api.Token{Kind: 77}, name("B"))
	checkText(t, "", end(), end())
}

func TestTextOfManyTokens(t *testing.T) {
	l := slices.Repeat([]api.Token{name("a")}, 3*api.MaxTokens)
	if s, err := lex.Text(l); s != strings.Repeat("a ", 3*api.MaxTokens-1)+"a" || err != api.OK {
		t.Errorf("Text: %d bytes, %d", len(s), err)
	}
}

func TestTextOfNoTokens(t *testing.T) {
	for _, x := range []api.Token{
		name(""), name("if"), name("A"), name("1"), name("a b"), name("("), name(strings.Repeat("a", api.MaxName+1)),
		key(""), key("a"), key("IF"), key("if "), key("("),
		sign(""), sign("$"), sign("<<<"), sign("//"), sign("=="), sign("if"), sign("()"), sign("'"), sign("#"),
		text("\r"), text("\x80"), text(strings.Repeat("s", api.MaxString+1)),
		number(1 << 31), number(-1<<31 - 1), number(math.MaxInt),
		{Kind: api.TName, S: "a", N: 1}, {Kind: api.TKey, S: "if", N: -1}, {Kind: api.TSign, S: "(", N: 1}, {Kind: api.TString, S: "a", N: 1}, {Kind: api.TString, N: 1},
		{Kind: api.TNumber, S: "1", N: 1}, {Kind: api.TNumber, S: " "}, {Kind: api.TEnd, S: "a"}, {Kind: api.TEnd, N: 1},
		{Kind: -1}, {Kind: 6}, {Kind: 6, S: "a"}, {Kind: 77}, {Kind: math.MinInt},
	} {
		for _, l := range [][]api.Token{{x}, {name("a"), x}, {x, end()}, {name("a"), x, end()}} {
			if s, err := lex.Text(l); s != "" || err != api.ErrForm {
				t.Errorf("Text(%v) = %q, %d", l, s, err)
			}
		}
		checkText(t, "a", name("a"), end(), x)
	}
}

func TestTextLeavesItsTokens(t *testing.T) {
	l := scan(t, "a := \"b\" // c\n")
	before := slices.Clone(l)
	lex.Text(l)
	if !slices.Equal(l, before) {
		t.Errorf("Text changes %v to %v", before, l)
	}
}
