package parse_test

import (
	"fmt"
	"strings"
	"testing"

	"bluebell/api"
	"bluebell/parse"
)

var opNames = map[int]string{
	api.ENum: "ENum", api.EStr: "EStr", api.ETrue: "ETrue", api.EFalse: "EFalse", api.EAny: "EAny", api.EName: "EName", api.ECall: "ECall", api.ESub: "ESub", api.EByte: "EByte",
	api.ELoad: "ELoad", api.EAddr: "EAddr", api.EBin: "EBin", api.EUn: "EUn", api.ECond: "ECond", api.EValof: "EValof", api.ETable: "ETable", api.ESel: "ESel", api.ESlct: "ESlct",
	api.CAssign: "CAssign", api.CCall: "CCall", api.CIf: "CIf", api.CUnless: "CUnless", api.CTest: "CTest", api.CWhile: "CWhile", api.CUntil: "CUntil",
	api.CRepeat: "CRepeat", api.CRepWh: "CRepWh", api.CRepUn: "CRepUn", api.CFor: "CFor", api.CSwitch: "CSwitch", api.CCase: "CCase", api.CDefault: "CDefault",
	api.CBreak: "CBreak", api.CLoop: "CLoop", api.CEndcase: "CEndcase", api.CReturn: "CReturn", api.CResult: "CResult", api.CGoto: "CGoto", api.CLabel: "CLabel",
	api.CFinish: "CFinish", api.CBlock: "CBlock", api.CNull: "CNull", api.CLet: "CLet", api.CVec: "CVec",
	api.DManifest: "DManifest", api.DStatic: "DStatic", api.DGlobal: "DGlobal", api.DConst: "DConst", api.DProc: "DProc",
}

// show writes a tree: each node with its text, its number, its place and its parts.
func show(n api.Node) string {
	s := opNames[n.Op]
	if n.S != "" {
		s += ":" + n.S
	}
	if n.N != 0 {
		s += fmt.Sprintf("#%d", n.N)
	}
	s += fmt.Sprintf("@%d", n.At)
	if len(n.L) == 0 {
		return s
	}
	return s + "(" + showAll(n.L) + ")"
}

func showAll(l []api.Node) string {
	var parts []string
	for _, n := range l {
		parts = append(parts, show(n))
	}
	return strings.Join(parts, " ")
}

// The three functions that parse, and their errors, as one kind of function.

type parsing struct {
	name  string
	parse func(src string) (tree string, err api.Errno, at int)
}

func (p parsing) check(t *testing.T, src, want string) {
	t.Helper()
	tree, err, at := p.parse(src)
	if tree != want || err != api.OK || at != 0 {
		t.Errorf("%s(%.80q) = %s, %d at %d; want %s", p.name, src, tree, err, at, want)
	}
}

func (p parsing) checkError(t *testing.T, src string, want api.Errno, place int) {
	t.Helper()
	tree, err, at := p.parse(src)
	if tree != "" || err != want || at != place {
		t.Errorf("%s(%.80q) = %.80s, %d at %d; want %d at %d", p.name, src, tree, err, at, want, place)
	}
}

// checkMark takes a source in which ^ stands before the place of its error.
func (p parsing) checkMark(t *testing.T, marked string, want api.Errno) {
	t.Helper()
	place := strings.Index(marked, "^")
	p.checkError(t, marked[:place]+marked[place+1:], want, place)
}

var (
	section = parsing{"Parse", func(src string) (string, api.Errno, int) {
		s, err, at := parse.Parse(src)
		if s.Name != "" {
			return s.Name + ": " + showAll(s.Decls), err, at
		}
		return showAll(s.Decls), err, at
	}}
	expr    = parsing{"Expr", showing(parse.Expr)}
	command = parsing{"Command", showing(parse.Command)}
)

func showing(parse func(string) (api.Node, api.Errno, int)) func(string) (string, api.Errno, int) {
	return func(src string) (string, api.Errno, int) {
		n, err, at := parse(src)
		if n.Op == 0 && n.L == nil && n.N == 0 && n.S == "" && n.At == 0 {
			return "", err, at
		}
		return show(n), err, at
	}
}

func mustExpr(t *testing.T, src string) api.Node {
	t.Helper()
	n, err, at := parse.Expr(src)
	if err != api.OK {
		t.Fatalf("Expr(%.80q): %d at %d", src, err, at)
	}
	return n
}

func mustCommand(t *testing.T, src string) api.Node {
	t.Helper()
	n, err, at := parse.Command(src)
	if err != api.OK {
		t.Fatalf("Command(%.80q): %d at %d", src, err, at)
	}
	return n
}

func mustParse(t *testing.T, src string) api.Section {
	t.Helper()
	s, err, at := parse.Parse(src)
	if err != api.OK {
		t.Fatalf("Parse(%.80q): %d at %d", src, err, at)
	}
	return s
}

// Nodes without their places.

func num(n int) api.Node {
	return api.Node{Op: api.ENum, N: n}
}

func str(s string) api.Node {
	return api.Node{Op: api.EStr, S: s}
}

func name(s string) api.Node {
	return api.Node{Op: api.EName, S: s}
}

func node(op int, parts ...api.Node) api.Node {
	return api.Node{Op: op, L: parts}
}

// repeated returns a list of so many nodes.
func repeated(n api.Node, count int) []api.Node {
	var l []api.Node
	for range count {
		l = append(l, n)
	}
	return l
}

// chain returns a tree of so many levels: nodes with one part each, and a number.
func chain(op, n, levels int) api.Node {
	tree := num(1)
	for range levels - 1 {
		tree = api.Node{Op: op, N: n, L: []api.Node{tree}}
	}
	return tree
}

func copied(n api.Node) api.Node {
	var l []api.Node
	for _, part := range n.L {
		l = append(l, copied(part))
	}
	n.L = l
	return n
}

func routine(body api.Node) api.Node {
	return api.Node{Op: api.DProc, S: "f", N: 1, L: []api.Node{body}}
}

func function(body api.Node) api.Node {
	return api.Node{Op: api.DProc, S: "f", L: []api.Node{body}}
}
