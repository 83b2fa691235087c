package parse_test

import (
	"slices"
	"strings"
	"testing"

	"bluebell/api"
	"bluebell/lex"
	"bluebell/parse"
)

// P3.1 and P3.6: whatever blanks, comments and parentheses a source has, its tree is the one it was written from, and so are the places.
func TestWrittenTreesAreReadWithTheirPlaces(t *testing.T) {
	m := newMaker(5)
	for i := range int64(3000) {
		src, want := written(i, m.expr(6))
		expr.check(t, src, show(want))
		src, want = written(i, m.command(6))
		command.check(t, src, show(want))
		src, all := writtenSection(i, m.section(6))
		if s, err, at := parse.Parse(src); err != api.OK || at != 0 || s.Name != all.Name || showAll(s.Decls) != showAll(all.Decls) {
			t.Errorf("Parse(%q) = %s, %d at %d; want %s", src, showAll(s.Decls), err, at, showAll(all.Decls))
		}
	}
}

// P3.5

func checkBack(t *testing.T, s api.Section) {
	t.Helper()
	text, err := parse.Print(s)
	if err != api.OK {
		t.Fatalf("Print(%s): %d", showAll(s.Decls), err)
	}
	back, err, at := parse.Parse(text)
	if err != api.OK || !parse.Same(back, s) {
		t.Errorf("Parse(%q) = %s, %d at %d; want %s", text, showAll(back.Decls), err, at, showAll(s.Decls))
	}
	if again, err := parse.Print(back); again != text || err != api.OK {
		t.Errorf("Print of Parse of %q = %q, %d", text, again, err)
	}
}

func TestParseOfPrint(t *testing.T) {
	m := newMaker(6)
	for range 3000 {
		checkBack(t, m.section(7))
	}
	exprs, commands, decls := samples()
	for _, n := range exprs {
		checkBack(t, api.Section{Decls: []api.Node{function(n), node(api.DManifest, api.Node{Op: api.DConst, S: "a", L: []api.Node{n}})}})
	}
	for _, n := range commands { // also before another declaration, else, and so on
		checkBack(t, api.Section{Decls: []api.Node{routine(n), routine(node(api.CTest, num(1), n, n)), routine(node(api.CBlock, n, node(api.CIf, num(1), n), n))}})
	}
	checkBack(t, api.Section{Name: "it's *\"\n\t", Decls: decls})
	checkBack(t, api.Section{})
}

func TestParseOfPrintAtTheLimits(t *testing.T) {
	eight := func(n api.Node) []api.Node { return repeated(n, api.MaxArgs) }
	checkBack(t, api.Section{Decls: []api.Node{
		{Op: api.DProc, S: strings.Repeat("f", api.MaxName), L: append(eight(name("a")), node(api.ECall, append(eight(num(-1<<31)), num(1<<31-1))...))},
		function(node(api.ETable, repeated(str(strings.Repeat("*", api.MaxString)), api.MaxString)...)),
		routine(node(api.CBlock, api.Node{Op: api.CLet, N: 8, L: append(eight(name("a")), eight(num(1))...)}, api.Node{Op: api.CAssign, N: 8, L: append(eight(name("a")), eight(num(1))...)})),
	}})
	// As many levels as may be, of what needs most parentheses.
	for _, n := range []api.Node{chain(api.EUn, api.Neg, 39), chain(api.EUn, api.Not, 39), chain(api.ELoad, 0, 39), chain(api.ECall, 0, 39)} {
		checkBack(t, api.Section{Decls: []api.Node{function(n)}})
	}
	n := num(1)
	for i := range api.MaxNest - 2 {
		switch i % 3 {
		case 0:
			n = node(api.ELoad, n)
		case 1:
			n = api.Node{Op: api.EUn, N: api.Not, L: []api.Node{n}}
		case 2:
			n = node(api.ECond, n, n, n)
			n.L[1], n.L[2] = num(1), num(2)
		}
	}
	checkBack(t, api.Section{Decls: []api.Node{function(n)}})
	// As many nodes as fit into a source.
	checkBack(t, api.Section{Decls: []api.Node{routine(node(api.CBlock, repeated(node(api.CNull), 19990)...))}})
	checkBack(t, api.Section{Decls: repeated(node(api.DStatic), 3600)})
}

func TestPrintedExpressionsAndCommandsAreReadAgain(t *testing.T) {
	m := newMaker(7)
	for range 3000 {
		n := m.expr(7)
		s, err := parse.PrintExpr(n)
		if back := mustExpr(t, s); err != api.OK || !parse.SameNode(back, n) {
			t.Errorf("Expr(%q) = %s, %d; want %s", s, show(back), err, show(n))
		}
		n = m.command(7)
		s, err = parse.PrintCommand(n)
		if back := mustCommand(t, s); err != api.OK || !parse.SameNode(back, n) {
			t.Errorf("Command(%q) = %s, %d; want %s", s, show(back), err, show(n))
		}
	}
}

// P3.6

// spread writes the tokens of a source with other blanks and comments between them.
func (m maker) spread(src string) string {
	tokens, _, _ := lex.Scan(src)
	var b strings.Builder
	w := &scribe{maker: m}
	for _, x := range tokens {
		w.Reset()
		w.space()
		b.WriteString(w.String())
		s, _ := lex.Text([]api.Token{x})
		b.WriteString(s)
	}
	return b.String()
}

func TestOtherBlanksAndComments(t *testing.T) {
	m := newMaker(8)
	sources := []string{
		"x:=#ff", "let f()=1", "section\"s\"manifest{a=1;b=a*2}static{s=\"x\"}global{g:20}let f(x,y)=x->y,!x and start()be{let v=vec 9;v!0,x%1:=f(1,2),'a';if v do break repeatwhile x;l:goto l;switchon x into{case 1:default:}}",
	}
	for range 1000 {
		s, _ := parse.Print(m.section(5))
		sources = append(sources, s)
	}
	for _, src := range sources {
		other := m.spread(src)
		a, err, _ := parse.Parse(src)
		b, otherErr, _ := parse.Parse(other)
		if err != otherErr || !parse.Same(a, b) {
			t.Errorf("Parse of %q and %q: %d and %d", src, other, err, otherErr)
		}
	}
	// The tokens at which errors are told are the same, too.
	for _, src := range []string{"a = b = c", "f(1,2,3,4,5,6,7,8,9)", strings.Repeat("(", 170), "a b", "", "(a", "f(a,)"} {
		other := m.spread(src)
		_, err, at := parse.Expr(src)
		_, otherErr, otherAt := parse.Expr(other)
		if err != otherErr || numberOf(src, at) != numberOf(other, otherAt) {
			t.Errorf("Expr of %q and %q: %d at %d, %d at %d", src, other, err, at, otherErr, otherAt)
		}
	}
}

// numberOf returns which token is at a place.
func numberOf(src string, at int) int {
	tokens, _, _ := lex.Scan(src)
	return slices.IndexFunc(tokens, func(x api.Token) bool { return x.At == at })
}
