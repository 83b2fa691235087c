package lex_test

import (
	"slices"
	"strings"
	"testing"

	"bluebell/api"
	"bluebell/lex"
)

func name(s string) api.Token { return api.Token{Kind: api.TName, S: s} }

func key(s string) api.Token { return api.Token{Kind: api.TKey, S: s} }

func sign(s string) api.Token { return api.Token{Kind: api.TSign, S: s} }

func text(s string) api.Token { return api.Token{Kind: api.TString, S: s} }

func number(n int) api.Token { return api.Token{Kind: api.TNumber, N: n} }

func end() api.Token { return api.Token{Kind: api.TEnd} }

// without returns tokens without their places.
func without(l []api.Token) []api.Token {
	out := slices.Clone(l)
	for i := range out {
		out[i].At = 0
	}
	return out
}

func scan(t *testing.T, src string) []api.Token {
	t.Helper()
	l, err, at := lex.Scan(src)
	if err != api.OK || at != 0 {
		t.Fatalf("Scan(%.60q): %d at %d", src, err, at)
	}
	return l
}

func checkTokens(t *testing.T, src string, want ...api.Token) {
	t.Helper()
	l, err, at := lex.Scan(src)
	if err != api.OK || at != 0 || !slices.Equal(without(l), append(want, end())) {
		t.Errorf("Scan(%.60q) = %v, %d at %d; want %v", src, l, err, at, want)
	}
}

func checkError(t *testing.T, src string, want api.Errno, place int) {
	t.Helper()
	l, err, at := lex.Scan(src)
	if len(l) != 0 || err != want || at != place {
		t.Errorf("Scan(%.60q) = %d tokens, %d at %d; want %d at %d", src, len(l), err, at, want, place)
	}
}

// P2.1

func TestExamples(t *testing.T) {
	checkTokens(t, "x:=#ff", name("x"), sign(":="), number(255))
	checkTokens(t, "'**'", number(42))
	checkError(t, "'*'", api.ErrText, 0)
}

func TestPlaces(t *testing.T) {
	src := " let x = 'a' // c\n\t\"b*n\"<<#1f"
	want := []api.Token{
		{Kind: api.TKey, S: "let", At: 1}, {Kind: api.TName, S: "x", At: 5}, {Kind: api.TSign, S: "=", At: 7}, {Kind: api.TNumber, N: 97, At: 9},
		{Kind: api.TString, S: "b\n", At: 19}, {Kind: api.TSign, S: "<<", At: 24}, {Kind: api.TNumber, N: 31, At: 26}, {Kind: api.TEnd, At: 29},
	}
	if l := scan(t, src); !slices.Equal(l, want) {
		t.Errorf("Scan = %v; want %v", l, want)
	}
}

func TestTheEndOfASource(t *testing.T) {
	for _, src := range []string{"", " ", "\n", " \t\n", "//", "// a", "// a\n", "//\xff\x00'\"", " // a\n// b"} {
		if l := scan(t, src); len(l) != 1 || l[0] != (api.Token{Kind: api.TEnd, At: len(src)}) {
			t.Errorf("Scan(%q) = %v", src, l)
		}
	}
	checkTokens(t, "a//", name("a"))
	checkTokens(t, "a// b", name("a"))
	checkTokens(t, "a// b\nc", name("a"), name("c"))
}

func TestNamesAndKeys(t *testing.T) {
	checkTokens(t, "a a_ a1_b9 a__ fi iff if", name("a"), name("a_"), name("a1_b9"), name("a__"), name("fi"), name("iff"), key("if"))
	checkTokens(t, "repeatwhile repeatwhil repeatwhile_ not", key("repeatwhile"), name("repeatwhil"), name("repeatwhile_"), name("not"))
	for _, k := range lex.Keys() {
		checkTokens(t, k, key(k))
		checkTokens(t, k+"0", name(k+"0"))
	}
	long := strings.Repeat("a", api.MaxName)
	checkTokens(t, long, name(long))
	checkTokens(t, long+" "+long+"(", name(long), name(long), sign("("))
	checkError(t, "b "+long+"a", api.ErrLimit, 2)
	checkError(t, "b "+long+"0$", api.ErrLimit, 2) // the name's error, from the left
	checkError(t, strings.Repeat("a", 5000), api.ErrLimit, 0)
}

func TestNumbersOfBothBases(t *testing.T) {
	checkTokens(t, "0 7 007 12ab", number(0), number(7), number(7), number(12), name("ab"))
	checkTokens(t, "#0 #fF #12ab #ffg", number(0), number(255), number(0x12ab), number(255), name("g"))
	checkTokens(t, "2147483647 #7fffffff", number(1<<31-1), number(1<<31-1))
	checkTokens(t, "#80000000 #80000001 #ffffffff #FFFFFFFE", number(-1<<31), number(-1<<31+1), number(-1), number(-2))
	zeros := strings.Repeat("0", 10000)
	checkTokens(t, zeros+"2147483647 #"+zeros+"ffffffff", number(1<<31-1), number(-1))
	checkError(t, "a 2147483648", api.ErrBig, 2)
	checkError(t, "a "+zeros+"2147483648", api.ErrBig, 2)
	checkError(t, "a #100000000", api.ErrBig, 2)
	for _, s := range []string{"4294967296", "9223372036854775808", "18446744073709551616", "18446744073709551617", "#10000000000000000", "#10000000000000001", strings.Repeat("9", 20000), "#" + strings.Repeat("f", 20000)} {
		checkError(t, s, api.ErrBig, 0)
	}
	for _, s := range []string{"#", "# 1", "#g", "#_", "##1", "#'a'"} {
		checkError(t, "a "+s, api.ErrByte, 2)
	}
	checkError(t, "#ffG", api.ErrByte, 3)
	checkError(t, "99999999999$", api.ErrBig, 0) // not the byte behind it
}

func TestCharacters(t *testing.T) {
	checkTokens(t, `'*n''*t''*s''**''*'''*"'`, number(10), number(9), number(32), number(42), number(39), number(34))
	for c := 0; c < 256; c++ {
		src := "a '" + string([]byte{byte(c)}) + "'"
		if c < 32 || c > 126 || c == '*' || c == '\'' {
			checkError(t, src, api.ErrText, 2)
		} else {
			checkTokens(t, src, name("a"), number(c))
		}
		src = "a '*" + string([]byte{byte(c)}) + "'"
		if !strings.Contains(`nts*'"`, string([]byte{byte(c)})) {
			checkError(t, src, api.ErrText, 2)
		}
	}
	for _, s := range []string{"'", "'a", "'*", "'*n", "''", "'''", "'ab'", "'a\n'", "'\n'", "'a //", "'*'", "'*n*'"} {
		checkError(t, "a "+s, api.ErrText, 2)
	}
}

func TestStrings(t *testing.T) {
	checkTokens(t, `"""a""it's""*n*t*s***'*"""//"`, text(""), text("a"), text("it's"), text("\n\t *'\""), text("//"))
	for c := 0; c < 256; c++ {
		s := string([]byte{byte(c)})
		src := "a \"x" + s + "y\""
		if c < 32 || c > 126 || c == '*' {
			checkError(t, src, api.ErrText, 2)
		} else if c != '"' {
			checkTokens(t, src, name("a"), text("x"+s+"y"))
		}
		src = "a \"*" + s + "\""
		if !strings.Contains(`nts*'"`, s) {
			checkError(t, src, api.ErrText, 2)
		}
	}
	for _, s := range []string{`"`, `"a`, `"*`, `"*n`, `"*"`, "\"a\n\"", "\"a\nb\"", `"a//`, "\"a\t\"", `"a*`, `"a**`} {
		checkError(t, "a "+s, api.ErrText, 2)
	}
}

func TestTheLengthOfAString(t *testing.T) {
	most := strings.Repeat("s", api.MaxString)
	checkTokens(t, `"`+most+`"`, text(most))
	checkTokens(t, `"`+strings.Repeat("*n", api.MaxString)+`"`, text(strings.Repeat("\n", api.MaxString))) // what it stands for counts
	checkError(t, `a "`+most+`s"`, api.ErrLimit, 2)
	checkError(t, `a "`+strings.Repeat("*n", api.MaxString+1)+`"`, api.ErrLimit, 2)
	// ErrText comes first, however far behind.
	checkError(t, `a "`+most+`s`, api.ErrText, 2)
	checkError(t, `a "`+most+"s\n\"", api.ErrText, 2)
	checkError(t, `a "`+most+most+`*x"`, api.ErrText, 2)
	checkError(t, `a "`+most+most+"\x80\"", api.ErrText, 2)
}

func TestTheLongestSign(t *testing.T) {
	for _, s := range lex.Signs() {
		checkTokens(t, s, sign(s))
		checkTokens(t, "a"+s+"1", name("a"), sign(s), number(1))
	}
	checkTokens(t, "<<= >>= <=> ~== :=:= ->= -- - >", sign("<<"), sign("="), sign(">>"), sign("="), sign("<="), sign(">"), sign("~="), sign("="), sign(":="), sign(":="), sign("->"), sign("="), sign("-"), sign("-"), sign("-"), sign(">"))
	checkTokens(t, "<<<>>>=<~:", sign("<<"), sign("<"), sign(">>"), sign(">="), sign("<"), sign("~"), sign(":"))
	checkTokens(t, "/ / /// *", sign("/"), sign("/"))
	checkTokens(t, "-//>\n>", sign("-"), sign(">"))
	checkTokens(t, "!!%@", sign("!"), sign("!"), sign("%"), sign("@"))
}

func TestBytesThatBeginNoToken(t *testing.T) {
	begins := "abcdefghijklmnopqrstuvwxyz0123456789'\"(){},;:!%@+-*/&|~?=<> \t\n"
	for c := 0; c < 256; c++ {
		s := string([]byte{byte(c)})
		if !strings.Contains(begins, s) {
			checkError(t, "a "+s+" b", api.ErrByte, 2)
			checkTokens(t, "a // "+s+"\n b", name("a"), name("b"))
		}
	}
	checkError(t, "aB", api.ErrByte, 1)
	checkError(t, "a\r\n", api.ErrByte, 1)
}

func TestTheFirstErrorFromTheLeft(t *testing.T) {
	wrong := []struct {
		src string
		err api.Errno
	}{{"$", api.ErrByte}, {"#", api.ErrByte}, {"'*'", api.ErrText}, {"\"\n", api.ErrText}, {"2147483648", api.ErrBig}, {strings.Repeat("a", 25), api.ErrLimit}, {`"` + strings.Repeat("a", 101) + `"`, api.ErrLimit}}
	for _, x := range wrong {
		for _, y := range wrong {
			checkError(t, "1 \n"+x.src+" "+y.src, x.err, 3)
		}
	}
}

func TestTheLengthOfASource(t *testing.T) {
	blanks := strings.Repeat(" ", api.MaxSource)
	checkTokens(t, blanks)
	checkTokens(t, blanks[3:]+"abc", name("abc"))
	checkError(t, blanks+" ", api.ErrLimit, 0)
	checkError(t, "a $"+blanks, api.ErrLimit, 0) // before all
	checkError(t, "//"+blanks, api.ErrLimit, 0)
}

func TestTheNumberOfTokens(t *testing.T) {
	most := strings.Repeat("(", api.MaxTokens-1)
	if l := scan(t, most+" // no token\n"); len(l) != api.MaxTokens {
		t.Errorf("Scan: %d tokens", len(l))
	}
	checkError(t, most+"(", api.ErrLimit, api.MaxTokens) // TEnd is one too many
	checkError(t, most+"( // no token", api.ErrLimit, api.MaxTokens+12)
	checkError(t, most+"(\n)", api.ErrLimit, api.MaxTokens+1)
	checkError(t, most+"(\n) $", api.ErrLimit, api.MaxTokens+1)
	// A token's own error comes before that, at the same place.
	checkError(t, most+"(\n$", api.ErrByte, api.MaxTokens+1)
	checkError(t, most+"(\n#", api.ErrByte, api.MaxTokens+1)
	checkError(t, most+"(\n'*'", api.ErrText, api.MaxTokens+1)
	checkError(t, most+"(\n\"", api.ErrText, api.MaxTokens+1)
	checkError(t, most+"(\n2147483648", api.ErrBig, api.MaxTokens+1)
	checkError(t, "$"+most+"((", api.ErrByte, 0)
}
