package parse_test

import (
	"slices"
	"testing"

	"bluebell/api"
	"bluebell/parse"
)

// P3.4

func TestSize(t *testing.T) {
	for src, want := range map[string]int{"": 0, "manifest {}": 1, "manifest { a = 1 ; b = a }": 5, "let f() be": 2, "let f(a, b) = a ! b + f(c, a)": 11, "let f() be { x := 1; } let g() = 1 static {}": 9} {
		if size := parse.Size(mustParse(t, src).Decls); size != want {
			t.Errorf("Size of %q = %d; want %d", src, size, want)
		}
	}
	for src, want := range map[string]int{"1": 1, "f()": 2, "a!b+f(c,a)": 8, "valof {}": 3, "-1": 2} {
		if size := parse.Size([]api.Node{mustExpr(t, src)}); size != want {
			t.Errorf("Size of %q = %d; want %d", src, size, want)
		}
	}
	if size := parse.Size([]api.Node{{}, {L: []api.Node{{}, {}}}, {Op: -7, L: []api.Node{{L: []api.Node{{}}}}}}); size != 7 {
		t.Errorf("Size of any trees = %d", size)
	}
	if size := parse.Size([]api.Node{chain(77, 0, 10000), num(1)}); size != 10001 {
		t.Errorf("Size of 10000 levels = %d", size)
	}
	if parse.Size(nil) != 0 || parse.Size([]api.Node{}) != 0 {
		t.Error("Size of nothing")
	}
}

func TestLevels(t *testing.T) {
	for src, want := range map[string]int{"1": 1, "f()": 2, "a!b+f(c,a)": 3, "valof {}": 3, "-1": 2, "f(1, 2, -3, 4)": 3, "f(f(f(1)), 2)": 4, "a + b + c + d": 4, "a + (b + (c + d))": 4, "(((1)))": 1} {
		if levels := parse.Levels(mustExpr(t, src)); levels != want {
			t.Errorf("Levels of %q = %d; want %d", src, levels, want)
		}
	}
	if parse.Levels(api.Node{}) != 1 || parse.Levels(api.Node{L: []api.Node{{}, {L: []api.Node{{}}}, {}}}) != 3 || parse.Levels(chain(-1, 9, 10000)) != 10000 {
		t.Error("Levels of any trees")
	}
}

func TestSameNode(t *testing.T) {
	n := mustCommand(t, "for i = 1 to f(a, \"s\") by -1 do { let b = 1 ; goto l }")
	moved := mustCommand(t, " // c\nfor i=(1)to f(a,\"s\")by-(1)do{let b=1;goto l}")
	if !parse.SameNode(n, n) || !parse.SameNode(n, moved) || !parse.SameNode(moved, n) || show(n) == show(moved) {
		t.Errorf("%s and %s are not the same", show(n), show(moved))
	}
	if !parse.SameNode(api.Node{}, api.Node{L: []api.Node{}, At: 5}) || !parse.SameNode(chain(-1, 9, 10000), chain(-1, 9, 10000)) || parse.SameNode(chain(-1, 9, 10000), chain(-1, 9, 9999)) {
		t.Error("SameNode of any trees")
	}
	changes := []func(n *api.Node){
		func(n *api.Node) { n.Op++ }, func(n *api.Node) { n.N++ }, func(n *api.Node) { n.S += "x" }, func(n *api.Node) { n.L = append(n.L, num(1)) },
		func(n *api.Node) {
			if len(n.L) > 0 {
				n.L = n.L[:len(n.L)-1]
			} else {
				n.Op++
			}
		},
	}
	// Each change of each node makes another tree.
	for i, change := range changes {
		for at := range parse.Size([]api.Node{n}) {
			other := copied(n)
			changeAt(&other, at, change)
			if parse.SameNode(n, other) || parse.SameNode(other, n) {
				t.Errorf("change %d at %d: %s and %s are the same", i, at, show(n), show(other))
			}
			if s := (api.Section{Decls: []api.Node{n}}); parse.Same(s, api.Section{Decls: []api.Node{other}}) {
				t.Errorf("change %d at %d: sections are the same", i, at)
			}
		}
	}
}

// changeAt changes a node by its number, and returns how many numbers are left.
func changeAt(n *api.Node, at int, change func(n *api.Node)) int {
	if at == 0 {
		change(n)
		return -1
	}
	at--
	for i := range n.L {
		if at = changeAt(&n.L[i], at, change); at < 0 {
			break
		}
	}
	return at
}

func TestSame(t *testing.T) {
	a := mustParse(t, "section \"s\" manifest { a = 1 } let f() be")
	b := mustParse(t, "section\"s\"manifest{a=(1)}\nlet f ( ) be ")
	if !parse.Same(a, b) || !parse.Same(b, a) || !parse.Same(api.Section{}, api.Section{Decls: []api.Node{}}) {
		t.Error("they are not the same")
	}
	for _, c := range []api.Section{{}, {Name: a.Name}, {Decls: a.Decls}, {Name: "t", Decls: a.Decls}, {Name: "s", Decls: a.Decls[:1]}, {Name: "s", Decls: []api.Node{a.Decls[1], a.Decls[0]}}, {Name: "s", Decls: append(slices.Clone(a.Decls), a.Decls[1])}} {
		if parse.Same(a, c) || parse.Same(c, a) {
			t.Errorf("%s are the same", showAll(c.Decls))
		}
	}
}

func TestProc(t *testing.T) {
	s := mustParse(t, "manifest { m = 1 } static { s = 2 } global { g : 20 } let f(x) = 1 and g() be f(v) let f() = 2")
	for name, want := range map[string]api.Node{"f": s.Decls[3], "g": s.Decls[4]} {
		if n, err := parse.Proc(s, name); show(n) != show(want) || err != api.OK {
			t.Errorf("Proc of %q = %s, %d", name, show(n), err)
		}
	}
	for _, name := range []string{"", "m", "s", "x", "v", "start", "F"} {
		if n, err := parse.Proc(s, name); !parse.SameNode(n, api.Node{}) || n.At != 0 || err != api.ErrNone {
			t.Errorf("Proc of %q = %s, %d", name, show(n), err)
		}
	}
	if n, err := parse.Proc(api.Section{}, "f"); !parse.SameNode(n, api.Node{}) || err != api.ErrNone {
		t.Errorf("Proc of nothing = %s, %d", show(n), err)
	}
	// Any trees: a DProc that is a part is none of the section.
	any := api.Section{Decls: []api.Node{node(77, api.Node{Op: api.DProc, S: "a"}), {Op: api.DConst, S: "a"}, {Op: api.DProc, N: 7}, {Op: api.DProc, S: "a", N: 9, L: []api.Node{chain(-3, 0, 10000)}}}}
	if n, err := parse.Proc(any, "a"); n.N != 9 || parse.Levels(n) != 10001 || err != api.OK {
		t.Errorf("Proc of any trees: %d, %d", n.N, err)
	}
	if n, err := parse.Proc(any, ""); n.N != 7 || err != api.OK {
		t.Errorf("Proc of any trees: %d, %d", n.N, err)
	}
}

func TestProcIsNewMemory(t *testing.T) {
	s := mustParse(t, "let f(a) be { x := g(1) }")
	before := show(s.Decls[0])
	n, _ := parse.Proc(s, "f")
	spoil(n)
	if show(s.Decls[0]) != before {
		t.Errorf("the section becomes %s", show(s.Decls[0]))
	}
	shared := []api.Node{num(1)}
	n, _ = parse.Proc(api.Section{Decls: []api.Node{{Op: api.DProc, S: "f", L: []api.Node{{Op: 1, L: shared}, {Op: 2, L: shared}}}}}, "f")
	n.L[0].L[0].N = 2
	if n.L[1].L[0].N != 1 {
		t.Error("two parts share memory")
	}
}

// spoil changes all nodes below one.
func spoil(n api.Node) {
	for i := range n.L {
		spoil(n.L[i])
		n.L[i] = api.Node{Op: -1, S: "spoilt"}
	}
}

func TestNames(t *testing.T) {
	for src, want := range map[string][]string{
		"1": nil, "a": {"a"}, "a + a": {"a"}, "a!b+f(c,a)": {"a", "b", "f", "c"}, "f(f(z, y), x)(y, w)": {"f", "z", "y", "x", "w"}, "c -> a, b": {"c", "a", "b"}, "s of p": {"s", "p"}, "table(b, a, b)": {"b", "a"}, `"a" + b`: {"b"},
		"valof { l: goto m ; for i = n to o do { let v = vec p ; let q, r = s, t } ; a, b := c, d }": {"n", "o", "p", "q", "r", "s", "t", "a", "b", "c", "d"},
		"valof { f(x) repeatwhile y ; switchon z into { case k: } }":                                 {"f", "x", "y", "z", "k"},
	} {
		if l := parse.Names(mustExpr(t, src)); !slices.Equal(l, want) {
			t.Errorf("Names of %q = %v; want %v", src, l, want)
		}
	}
	s := mustParse(t, "let f(b, a) be g(a, c) manifest { m = n }")
	if l := parse.Names(s.Decls[0]); !slices.Equal(l, []string{"b", "a", "g", "c"}) {
		t.Errorf("Names of a DProc = %v", l)
	}
	if l := parse.Names(s.Decls[1]); !slices.Equal(l, []string{"n"}) {
		t.Errorf("Names of a DManifest = %v", l)
	}
	// Any trees.
	any := api.Node{Op: api.EName, S: "if", L: []api.Node{{Op: 99, S: "no", L: []api.Node{name("z"), name("")}}, name("z"), name("a")}}
	if l := parse.Names(any); !slices.Equal(l, []string{"if", "z", "", "a"}) {
		t.Errorf("Names of any tree = %v", l)
	}
	deep := chain(api.EName, 0, 10000)
	if l := parse.Names(deep); !slices.Equal(l, []string{""}) {
		t.Errorf("Names of 10000 levels = %v", l)
	}
}

// R3, R4: trees are left as they are, and results hang on them alone.
func TestTreesAreLeftAsTheyAre(t *testing.T) {
	src := "section \"s\" manifest { a = 1 } let f(x) be { let v, w = vec_, -1 ; test f(v ! 1) then goto l else l: for i = 1 to 2 do x := valof { resultis table(1) } repeat }"
	s := mustParse(t, src)
	n := s.Decls[1].L[1]
	before := showAll(s.Decls)
	first, _ := parse.Print(s)
	spoilt := mustParse(t, src)
	for _, d := range spoilt.Decls {
		spoil(d)
	}
	parse.Check(s)
	parse.CheckExpr(n)
	parse.PrintExpr(n)
	parse.PrintCommand(n)
	parse.Size(s.Decls)
	parse.Levels(n)
	parse.Same(s, spoilt)
	parse.SameNode(n, spoilt.Decls[0])
	names := parse.Names(n)
	clear(names)
	parse.Proc(s, "f")
	if showAll(s.Decls) != before {
		t.Errorf("the trees become %s", showAll(s.Decls))
	}
	if again, _ := parse.Print(s); again != first || showAll(mustParse(t, src).Decls) != before {
		t.Errorf("the same again gives %q", again)
	}
}
