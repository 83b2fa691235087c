package mean_test

import (
	"strings"
	"testing"

	"bluebell/api"
	"bluebell/mean"
	"bluebell/parse"
)

const enough = 100000 // fuel for all but endless programs

// writer is a procedure that writes a number, with a blank behind it.
const writer = " let w(n) be { if n < 0 do { wrch('-') ; n := - n } ; d(n) ; wrch(' ') } let d(n) be { if n > 9 do d(n / 10) ; wrch('0' + n rem 10) }"

// things is what a program may have around its start: a name of each kind.
const things = " static { st = 7 } global { gl : 20 ; gp : 21 } let gp(x) = x let id(x) = x let two(x, y) = x let no(x) be { }" + writer

func forms() []api.Form {
	return []api.Form{{Bits: 16, Big: true}, {Bits: 16}, {Bits: 24, Big: true}, {Bits: 24}, {Bits: 32, Big: true}, {Bits: 32}}
}

// form16 is the one of most tests that do not hang on it.
var form16 = api.Form{Bits: 16}

func mustParse(t testing.TB, src string) api.Section {
	t.Helper()
	s, err, at := parse.Parse(src)
	if err != api.OK {
		t.Fatalf("Parse(%.300q): %d at %d", src, err, at)
	}
	return s
}

func mustExpr(t testing.TB, src string) api.Node {
	t.Helper()
	n, err, at := parse.Expr(src)
	if err != api.OK {
		t.Fatalf("Expr(%.300q): %d at %d", src, err, at)
	}
	return n
}

// run runs a source for which no error is expected.
func run(t testing.TB, src string, f api.Form, input string, fuel int) (api.Result, bool) {
	t.Helper()
	r, narrow, err := mean.Run(mustParse(t, src), f, input, fuel)
	if err != api.OK {
		t.Fatalf("Run(%.300q): %d", src, err)
	}
	return r, narrow
}

// started puts items into start, with all things around it.
func started(items string) string {
	return "let start() be { " + items + " }" + things
}

// checkOut takes items of start that are done, and what they write, by all forms.
func checkOut(t *testing.T, items, want string) {
	t.Helper()
	s := mustParse(t, started(items))
	for _, f := range forms() {
		r, _, err := mean.Run(s, f, "", enough)
		if err != api.OK || r.Out != want || r.End != api.Done || r.Code != 0 || r.Why != api.OK {
			t.Errorf("%s by %v: %v, %d; want %q", items, f, r, err, want)
		}
	}
}

// checkWild takes items of start that are wild behind writing something, by all forms.
func checkWild(t *testing.T, items, want string) {
	t.Helper()
	s := mustParse(t, started(items))
	for _, f := range forms() {
		r, narrow, err := mean.Run(s, f, "", enough)
		if err != api.OK || r.Out != want || r.End != api.Wild || r.Code != 0 || r.Why != api.OK || narrow {
			t.Errorf("%s by %v: %v, %v, %d; want wild behind %q", items, f, r, narrow, err, want)
		}
	}
}

// pairs calls a function with the two sides of each line.
func pairs(lines string, do func(left, right string)) {
	for line := range strings.Lines(lines) {
		if left, right, ok := strings.Cut(line, "=>"); ok {
			do(strings.TrimSpace(left), strings.TrimSpace(right))
		}
	}
}

// eachLine calls a function with each line that is not empty.
func eachLine(lines string, do func(line string)) {
	for line := range strings.Lines(lines) {
		if line = strings.TrimSpace(line); line != "" {
			do(line)
		}
	}
}

func num(n int) api.Node {
	return api.Node{Op: api.ENum, N: n}
}

func name(s string) api.Node {
	return api.Node{Op: api.EName, S: s}
}

func node(op int, parts ...api.Node) api.Node {
	return api.Node{Op: op, L: parts}
}

// chain returns an expression of so many levels.
func chain(levels int) api.Node {
	n := num(1)
	for range levels - 1 {
		n = api.Node{Op: api.EUn, N: api.Neg, L: []api.Node{n}}
	}
	return n
}
