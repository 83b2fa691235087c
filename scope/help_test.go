package scope_test

import (
	"strings"
	"testing"

	"bluebell/api"
	"bluebell/parse"
	"bluebell/scope"
)

func mustParse(t *testing.T, src string) api.Section {
	t.Helper()
	s, err, at := parse.Parse(src)
	if err != api.OK {
		t.Fatalf("Parse(%.200q): %d at %d", src, err, at)
	}
	return s
}

func mustExpr(t *testing.T, src string) api.Node {
	t.Helper()
	n, err, at := parse.Expr(src)
	if err != api.OK {
		t.Fatalf("Expr(%.80q): %d at %d", src, err, at)
	}
	return n
}

// checkFine takes sources that pass.
func checkFine(t *testing.T, sources ...string) {
	t.Helper()
	for _, src := range sources {
		if err, at := scope.Check(mustParse(t, src)); err != api.OK || at != -1 {
			t.Errorf("Check(%.200q) = %d at %d", src, err, at)
		}
	}
}

// checkMarks takes sources in which ^ stands before the place of their error.
func checkMarks(t *testing.T, want api.Errno, marked ...string) {
	t.Helper()
	for _, m := range marked {
		place := strings.Index(m, "^")
		src := m[:place] + m[place+1:]
		if err, at := scope.Check(mustParse(t, src)); err != want || at != place {
			t.Errorf("Check(%.200q) = %d at %d; want %d at %d", src, err, at, want, place)
		}
	}
}

// inProc puts commands and so on into a procedure that has something of each kind around it.
func inProc(sources ...string) []string {
	var l []string
	for _, src := range sources {
		l = append(l, "manifest { m = 5 } static { s = 7 } global { g : 20 ; gp : 21 } let f(p, q) be { "+src+" } let gp() = 1 manifest { late = 1 } let h(x) = 2")
	}
	return l
}

func num(n int) api.Node {
	return api.Node{Op: api.ENum, N: n}
}

func name(s string) api.Node {
	return api.Node{Op: api.EName, S: s}
}

func node(op int, parts ...api.Node) api.Node {
	return api.Node{Op: op, L: parts}
}

func routine(name string, body api.Node) api.Node {
	return api.Node{Op: api.DProc, S: name, N: 1, L: []api.Node{body}}
}

// deep returns a tree of so many levels.
func deep(levels int) api.Node {
	n := num(1)
	for range levels - 1 {
		n = api.Node{Op: api.EUn, N: api.Neg, L: []api.Node{n}}
	}
	return n
}
