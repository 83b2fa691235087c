package lex_test

import (
	"math/big"
	"math/rand"
	"regexp"
	"slices"
	"strings"
	"testing"

	"bluebell/api"
	"bluebell/lex"
)

// The tests hold Scan against a model that tells tokens by regular expressions and numbers by math/big.

var (
	reBetween   = regexp.MustCompile(`^([ \t\n]|//[^\n]*)+`)
	reName      = regexp.MustCompile(`^[a-z][a-z0-9_]*`)
	reNumber    = regexp.MustCompile(`^[0-9]+`)
	reBase16    = regexp.MustCompile(`^#[0-9a-fA-F]+`)
	reCharacter = regexp.MustCompile(`^'([ -&(-)+-~]|\*[nts*'"])'`)
	reString    = regexp.MustCompile(`^"([ !#-)+-~]|\*[nts*'"])*"`)
	reSign      = regexp.MustCompile(`^(~=|<=|>=|<<|>>|:=|->|[(){},;:!%@+\-*/&|~?=<>])`)
	reEscape    = regexp.MustCompile(`\*.`)
)

const modelKeys = "and be break by case default do else endcase eqv false finish for global goto if into let loop manifest of or rem repeat repeatuntil repeatwhile resultis return section slct static switchon table test then to true unless until valof vec while xor"

const modelSigns = "( ) { } , ; : ! % @ + - * / & | ~ ? = ~= < <= > >= << >> := ->"

func modelScan(src string) ([]api.Token, api.Errno, int) {
	if len(src) > 40000 {
		return nil, api.ErrLimit, 0
	}
	var l []api.Token
	at := 0
	for {
		at += len(reBetween.FindString(src[at:]))
		t, text, err := modelToken(src[at:])
		if err == api.OK && len(l) >= 20000 {
			err = api.ErrLimit
		}
		if err != api.OK {
			return nil, err, at
		}
		t.At = at
		l = append(l, t)
		if t.Kind == api.TEnd {
			return l, api.OK, 0
		}
		at += len(text)
	}
}

// modelToken returns the token at the beginning of a text, and the bytes that it has.
func modelToken(s string) (t api.Token, text string, err api.Errno) {
	if s == "" {
		return api.Token{Kind: api.TEnd}, "", api.OK
	}
	if text = reName.FindString(s); text != "" {
		return modelWord(text)
	}
	if text = reNumber.FindString(s); text != "" {
		return modelNumber(text, text, 10)
	}
	if text = reBase16.FindString(s); text != "" {
		return modelNumber(text, text[1:], 16)
	}
	if s[0] == '\'' || s[0] == '"' {
		return modelQuoted(s)
	}
	if text = reSign.FindString(s); text != "" {
		return api.Token{Kind: api.TSign, S: text}, text, api.OK
	}
	return t, "", api.ErrByte
}

func modelWord(text string) (api.Token, string, api.Errno) {
	if slices.Contains(strings.Fields(modelKeys), text) {
		return api.Token{Kind: api.TKey, S: text}, text, api.OK
	}
	if len(text) > 24 {
		return api.Token{}, text, api.ErrLimit
	}
	return api.Token{Kind: api.TName, S: text}, text, api.OK
}

func modelNumber(text, digits string, base int) (api.Token, string, api.Errno) {
	n, _ := new(big.Int).SetString(digits, base)
	most := map[int]int64{10: 2147483647, 16: 4294967295}[base]
	if n.Cmp(big.NewInt(most)) > 0 {
		return api.Token{}, text, api.ErrBig
	}
	if n.Cmp(big.NewInt(2147483647)) > 0 {
		n.Sub(n, big.NewInt(4294967296))
	}
	return api.Token{Kind: api.TNumber, N: int(n.Int64())}, text, api.OK
}

func modelQuoted(s string) (api.Token, string, api.Errno) {
	stands := func(text string) string {
		return reEscape.ReplaceAllStringFunc(text[1:len(text)-1], func(e string) string {
			return strings.NewReplacer("n", "\n", "t", "\t", "s", " ").Replace(e[1:])
		})
	}
	if text := reCharacter.FindString(s); text != "" {
		return api.Token{Kind: api.TNumber, N: int(stands(text)[0])}, text, api.OK
	}
	text := reString.FindString(s)
	if text == "" {
		return api.Token{}, "", api.ErrText
	}
	if len(stands(text)) > 100 {
		return api.Token{}, text, api.ErrLimit
	}
	return api.Token{Kind: api.TString, S: stands(text)}, text, api.OK
}

func checkScan(t *testing.T, src string) {
	t.Helper()
	l, err, at := lex.Scan(src)
	wantL, wantErr, wantAt := modelScan(src)
	if !slices.Equal(l, wantL) || err != wantErr || at != wantAt {
		t.Errorf("Scan(%.200q) = %v, %d at %d; want %v, %d at %d", src, l, err, at, wantL, wantErr, wantAt)
	}
}

// eachShort gives all texts of at most three bytes, of the bytes that matter to tokens.
func eachShort(do func(src string)) {
	const letters = "afnsz019_#'\"*/<=->:~! \n\t\x00\r\x1f\x7f\x80\xffAFGZ$"
	do("")
	for i := range len(letters) {
		a := letters[i : i+1]
		do(a)
		for j := range len(letters) {
			b := a + letters[j:j+1]
			do(b)
			for k := range len(letters) {
				do(b + letters[k:k+1])
			}
		}
	}
}

// pieces has tokens of all kinds, what stands between tokens, and some of what is wrong.
func pieces() []string {
	l := strings.Fields(modelKeys + " " + modelSigns)
	return append(l, "a", "x1", "if1", "an_d", "v_", strings.Repeat("n", 24), strings.Repeat("n", 25),
		"0", "7", "007", "65535", "2147483647", "2147483648", "99999999999999999999999", "#0", "#fF", "#00000000001", "#7fffffff", "#80000000", "#FFFFFFFF", "#100000000", "#",
		"'a'", "' '", "'\"'", "'*n'", "'*t'", "'*s'", "'**'", "'*''", "'*\"'", "'", "''", "'''", "'*'", "'ab'", "'\t'",
		`""`, `"a"`, `"it's"`, `"*n*t*s***'*""`, `"// a"`, `"`, `"*`, `"*x"`, "\"\t\"", "\"\n\"", "\"\x80\"", `"`+strings.Repeat("*n", 100)+`"`, `"`+strings.Repeat("s", 101)+`"`,
		" ", "\t", "\n", " ", "\n", "// a comment\n", "//\n", "// \xff\x00 'A \"$", "//", "A", "_", "$", "\r", "\x80")
}

// someSources returns sources of a few pieces each, always the same ones.
func someSources(most int) []string {
	r := rand.New(rand.NewSource(2))
	parts := pieces()
	var l []string
	for range 20000 {
		var b strings.Builder
		for range r.Intn(most + 1) {
			b.WriteString(parts[r.Intn(len(parts))])
			if r.Intn(2) == 0 {
				b.WriteString(" ")
			}
		}
		l = append(l, b.String())
	}
	return l
}

func TestScanIsAsTheModel(t *testing.T) {
	eachShort(func(src string) { checkScan(t, src) })
	for _, src := range someSources(8) {
		checkScan(t, src)
	}
}
