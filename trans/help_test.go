package trans_test

import (
	"slices"
	"strconv"
	"strings"
	"testing"

	"bluebell/api"
	"bluebell/ocode"
	"bluebell/parse"
	"bluebell/scope"
	"bluebell/trans"
)

// The names of layer 6, in the order of their numbers.
const (
	opNames       = "num local putl addrl global putg addrg static puts addrs proc load store getb putb bin un stack label jump true false call enter return back result take switch case"
	operatorNames = "mul div rem add sub shl shr and or xor eqv eq ne lt le gt ge neg not"
)

// ops takes instructions with commas between them; numbers that are left out are 0.
func ops(src string) []api.Op {
	var l []api.Op
	for part := range strings.SplitSeq(src, ",") {
		words := strings.Fields(part)
		if len(words) == 0 {
			continue
		}
		o := api.Op{Op: 1 + slices.Index(strings.Fields(opNames), words[0])}
		if len(words) > 1 {
			o.N = operand(words[1])
		}
		if len(words) > 2 {
			o.M = operand(words[2])
		}
		l = append(l, o)
	}
	return l
}

func operand(s string) int {
	if n, err := strconv.Atoi(s); err == nil {
		return n
	}
	return 1 + slices.Index(strings.Fields(operatorNames), s)
}

// written writes instructions as ops takes them, with all their numbers.
func written(l []api.Op) string {
	var parts []string
	for _, o := range l {
		s := strings.Fields(opNames)[o.Op-1] + " " + strconv.Itoa(o.N)
		if o.M != 0 {
			s += " " + strconv.Itoa(o.M)
		}
		parts = append(parts, s)
	}
	return strings.Join(parts, ", ")
}

func mustParse(t testing.TB, src string) api.Section {
	t.Helper()
	s, err, at := parse.Parse(src)
	if err != api.OK {
		t.Fatalf("Parse(%.300q): %d at %d", src, err, at)
	}
	return s
}

func mustTranslate(t testing.TB, s api.Section) api.Code {
	t.Helper()
	c, err := trans.Translate(s)
	if err != api.OK {
		place, at := scope.Check(s)
		t.Fatalf("Translate: %d (scope.Check: %d at %d)", err, place, at)
	}
	return c
}

func mustCompile(t testing.TB, src string) api.Code {
	t.Helper()
	c, err, at := trans.Compile(src)
	if err != api.OK || at != 0 {
		t.Fatalf("Compile(%.400q): %d at %d", src, err, at)
	}
	return c
}

// instructions returns those of a procedure.
func instructions(c api.Code, proc int) []api.Op {
	var l []api.Op
	now := 0
	for _, o := range c.Ops {
		if o.Op == api.OEnter {
			now = o.N
		}
		if now == proc {
			l = append(l, o)
		}
	}
	return l
}

// things is what stands behind the procedure f of most tests, which is the procedure 1 and has the parameters a and b, so that its depth is 4 at first. The areas 0 and 1 are statics.
const things = " let g() be { } let p(x) = x let start() be { } static { s = 7 ; t = 8 } global { gl : 50 ; g : 51 }"

const (
	manifests = "manifest { m = 5 ; low = - 3 ; sel = slct(3, 2, 1) } "
	function  = manifests + "let f(a, b) = "
	routine   = manifests + "let f(a, b) be "
)

// checkBody takes the body of f and its code, but for what every procedure has.
func checkBody(t *testing.T, head, body, last, want string) {
	t.Helper()
	c := mustCompile(t, head+body+things)
	l := ops("enter 1 2, " + want + ", " + last)
	if got := instructions(c, 1); !slices.Equal(got, l) {
		t.Errorf("%s:\n got %s\nwant %s", body, written(got), written(l))
	}
}

// pairs calls a function with the two sides of each line.
func pairs(lines string, do func(left, right string)) {
	for line := range strings.Lines(lines) {
		if left, right, ok := strings.Cut(line, "=>"); ok {
			do(strings.TrimSpace(left), strings.TrimSpace(right))
		}
	}
}

// checkExprs takes lines with an expression and its code.
func checkExprs(t *testing.T, lines string) {
	t.Helper()
	pairs(lines, func(src, want string) {
		t.Helper()
		checkBody(t, function, src, "return", want)
	})
}

// checkCommands takes lines with a command and its code.
func checkCommands(t *testing.T, lines string) {
	t.Helper()
	pairs(lines, func(src, want string) {
		t.Helper()
		checkBody(t, routine, src, "back", want)
	})
}

// checkCode takes a source and all of its instructions.
func checkCode(t *testing.T, src, want string) {
	t.Helper()
	if c := mustCompile(t, src); !slices.Equal(c.Ops, ops(want)) {
		t.Errorf("%q:\n got %s\nwant %s", src, written(c.Ops), written(ops(want)))
	}
}

// checkData takes a source and all of its areas.
func checkData(t *testing.T, src string, want ...api.Data) {
	t.Helper()
	c := mustCompile(t, src)
	if !ocode.Same(api.Code{Data: c.Data}, api.Code{Data: want}) {
		t.Errorf("%q: areas %v; want %v", src, c.Data, want)
	}
}

func words(l ...int) api.Data {
	return api.Data{Words: l}
}

func text(s string) api.Data {
	return api.Data{Text: s, IsText: true}
}

// copied returns a tree in new memory.
func copied(n api.Node) api.Node {
	var l []api.Node
	for _, part := range n.L {
		l = append(l, copied(part))
	}
	n.L = l
	return n
}
