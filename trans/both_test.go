package trans_test

import (
	"slices"
	"testing"

	"bluebell/api"
	"bluebell/ocode"
	"bluebell/parse"
	"bluebell/scope"
	"bluebell/trans"
)

const rounds = 1000

// TestMakerMakesAll holds the test's own means: all that is made passes, and nothing is rare.
func TestMakerMakesAll(t *testing.T) {
	m := newMaker(7)
	seen := map[int]int{}
	var look func(n api.Node)
	look = func(n api.Node) {
		seen[n.Op]++
		for _, part := range n.L {
			look(part)
		}
	}
	instructions := map[int]int{}
	for range rounds {
		s := mustParse(t, plain(m.section()))
		if err, at := scope.Check(s); err != api.OK {
			text, _ := parse.Print(s)
			t.Fatalf("Check(%s): %d at %d", text, err, at)
		}
		look(api.Node{L: s.Decls})
		for _, o := range mustTranslate(t, s).Ops {
			instructions[o.Op]++
		}
	}
	for op := api.ENum; op <= api.DProc; op++ {
		isOp := op <= api.ESlct || op >= api.CAssign && op <= api.CVec || op >= api.DManifest
		if isOp && seen[op] < 100 {
			t.Errorf("only %d nodes with the op %d", seen[op], op)
		}
	}
	for op := api.ONum; op <= api.OCase; op++ {
		if instructions[op] < 100 {
			t.Errorf("only %d instructions with the op %d", instructions[op], op)
		}
	}
}

// P7.1, P7.3
func TestTranslateIsAsTheModel(t *testing.T) {
	m := newMaker(71)
	for range 2 * rounds {
		s := mustParse(t, plain(m.section()))
		want, _ := modelOf(s)
		c := mustTranslate(t, s)
		if !ocode.Same(c, want) {
			text, _ := parse.Print(s)
			t.Fatalf("%s:\n got %v %s\nwant %v %s", text, c.Data, written(c.Ops), want.Data, written(want.Ops))
		}
		var counts []int
		var cross [][2]int
		for p := 1; p <= want.Procs; p++ {
			l := instructions(want, p)
			counts = append(counts, len(l))
			for _, o := range l {
				if q := pushed(o, want); q > 0 && !slices.Contains(cross, [2]int{p, q}) {
					cross = append(cross, [2]int{p, q})
				}
			}
		}
		if l, err := trans.Count(s); !slices.Equal(l, counts) || err != api.OK {
			t.Fatalf("Count = %v, %d; want %v", l, err, counts)
		}
		if l, err := trans.Cross(s); !slices.Equal(l, cross) || err != api.OK {
			t.Fatalf("Cross = %v, %d; want %v", l, err, cross)
		}
	}
}

// pushed returns the procedure that an instruction pushes, or 0.
func pushed(o api.Op, c api.Code) int {
	if o.Op == api.OProc {
		return o.N
	}
	i := slices.IndexFunc(c.Globals, func(e api.Entry) bool { return e.Global == o.N })
	if o.Op == api.OGlobal && i >= 0 {
		return c.Globals[i].Proc
	}
	return 0
}

// P7.1, P7.2: Compile and Expression are Translate of what is parsed.
func TestCompileIsTranslateOfParse(t *testing.T) {
	m := newMaker(72)
	for range rounds {
		src := plain(m.section())
		want := mustTranslate(t, mustParse(t, src))
		if c := mustCompile(t, src); !ocode.Same(c, want) {
			t.Fatalf("Compile(%s): %s\nwant %s", src, written(c.Ops), written(want.Ops))
		}
		src = "valof { resultis 1 } let x() = 1 " + src
		want, err, at := trans.Compile("let start ( ) = " + src)
		if c, errE, atE := trans.Expression(src); !ocode.Same(c, want) || errE != err || atE != max(0, at-16) {
			t.Fatalf("Expression(%s): %d at %d; want %d at %d less 16", src, errE, atE, err, at)
		}
	}
}

// P7.4

func TestCodeIsValid(t *testing.T) {
	m := newMaker(74)
	for range rounds {
		src := plain(m.section())
		c := mustCompile(t, src)
		if err := ocode.Check(c); err != api.OK {
			t.Fatalf("%s: ocode.Check: %d", src, err)
		}
		text, err := ocode.Text(c)
		if err != api.OK {
			t.Fatalf("%s: ocode.Text: %d", src, err)
		}
		if back, err, line := ocode.Read(text); err != api.OK || line != 0 || !ocode.Same(back, c) {
			t.Fatalf("%s: ocode.Read: %d in line %d", src, err, line)
		}
		_, want := modelOf(mustParse(t, src))
		if depths, err := ocode.Depths(c); !slices.Equal(depths, want) || err != api.OK {
			t.Fatalf("%s: depths are %v, %d; want %v", src, depths, err, want)
		}
	}
}

// P7.5

func TestPrintedSectionsHaveTheSameCode(t *testing.T) {
	m := newMaker(75)
	for range rounds {
		s := mustParse(t, plain(m.section()))
		text, err := parse.Print(s)
		if err != api.OK {
			t.Fatalf("Print: %d", err)
		}
		if a, b := mustTranslate(t, s), mustCompile(t, text); !ocode.Same(a, b) {
			t.Fatalf("%s:\n got %s\nwant %s", text, written(b.Ops), written(a.Ops))
		}
	}
}

func TestNamesOfLocalsDoNotMatter(t *testing.T) {
	m := newMaker(76)
	changed := 0
	for range rounds {
		marked := m.section()
		a, b := mustCompile(t, plain(marked)), mustCompile(t, renamed(marked))
		if !ocode.Same(a, b) {
			t.Fatalf("%s:\n got %s\nwant %s", marked, written(b.Ops), written(a.Ops))
		}
		if plain(marked) != renamed(marked) {
			changed++
		}
	}
	if changed < rounds/2 {
		t.Errorf("only %d sections with locals", changed)
	}
}

// apart returns the instructions of a procedure, with what does not hang on other procedures in place of numbers: labels from 1 on, areas by what they have, procedures by their names.
func apart(s api.Section, c api.Code, p int) ([]api.Op, []any) {
	var names []string
	for _, d := range s.Decls {
		if d.Op == api.DProc {
			names = append(names, d.S)
		}
	}
	l := instructions(c, p)
	var others []any
	least := c.Labels + 1
	for _, o := range l {
		if o.Op == api.OLabel {
			least = min(least, o.N)
		}
	}
	for i := range l {
		switch o := &l[i]; o.Op {
		case api.OLabel, api.OJump, api.OTrue, api.OFalse, api.OResult, api.OSwitch:
			o.N -= least
		case api.OCase:
			o.M -= least
		case api.OEnter, api.OProc:
			others = append(others, names[o.N-1])
			o.N = 0
		case api.OAddrS, api.OStatic, api.OPutS:
			d := c.Data[o.N]
			others = append(others, d.Text, d.IsText, len(d.Words))
			for _, word := range d.Words {
				others = append(others, word)
			}
			o.N = 0
		}
	}
	return l, others
}

// procsOf returns the places of a section's procedures.
func procsOf(s api.Section) []int {
	var l []int
	for i, d := range s.Decls {
		if d.Op == api.DProc {
			l = append(l, i)
		}
	}
	return l
}

func TestProceduresDoNotHangOnTheirOrder(t *testing.T) {
	m := newMaker(77)
	for range rounds {
		s := mustParse(t, plain(m.section()))
		places := procsOf(s)
		order := m.Perm(len(places))
		other := api.Section{Name: s.Name, Decls: slices.Clone(s.Decls)}
		for i, from := range order {
			other.Decls[places[i]] = s.Decls[places[from]]
		}
		a, b := mustTranslate(t, s), mustTranslate(t, other)
		for i, from := range order {
			checkApart(t, s, a, from+1, other, b, i+1)
		}
		if !slices.Equal(sortedGlobals(a), sortedGlobals(b)) || len(a.Data) != len(b.Data) || a.Labels != b.Labels || a.Procs != b.Procs || a.Name != b.Name {
			t.Fatalf("code is %v, and %v in another order", a, b)
		}
	}
}

func sortedGlobals(c api.Code) []int {
	var l []int
	for _, e := range c.Globals {
		l = append(l, e.Global)
	}
	slices.Sort(l)
	return l
}

func checkApart(t *testing.T, s api.Section, a api.Code, p int, other api.Section, b api.Code, q int) {
	t.Helper()
	opsA, restA := apart(s, a, p)
	opsB, restB := apart(other, b, q)
	if !slices.Equal(opsA, opsB) || !slices.Equal(restA, restB) {
		text, _ := parse.Print(s)
		t.Fatalf("procedure %d of %s:\n is %s %v\n and %s %v as procedure %d", p, text, written(opsA), restA, written(opsB), restB, q)
	}
}

func TestProceduresDoNotHangOnOthers(t *testing.T) {
	m := newMaker(78)
	for range rounds {
		s := mustParse(t, plain(m.section()))
		a := mustTranslate(t, s)
		places := procsOf(s)
		for p := range places {
			other := api.Section{Name: s.Name, Decls: slices.Clone(s.Decls)}
			for q, i := range places {
				// All the others have another body.
				if q != p {
					other.Decls[i] = api.Node{Op: api.DProc, S: s.Decls[i].S, L: []api.Node{{Op: api.ECond, L: []api.Node{{Op: api.EStr}, {Op: api.ENum}, {Op: api.ENum}}}}}
				}
			}
			checkApart(t, s, a, p+1, other, mustTranslate(t, other), p+1)
		}
	}
}

// R1, R2: trees that are changed to be wrong are refused as scope.Check tells.
func TestTreesOfAnyKind(t *testing.T) {
	m := newMaker(79)
	ends := map[api.Errno]int{}
	for range 4 * rounds {
		s := mustParse(t, plain(m.section()))
		for range 1 + m.Intn(2) {
			m.spoil(s.Decls)
		}
		want, _ := scope.Check(s)
		ends[want]++
		c, err := trans.Translate(s)
		counts, errCount := trans.Count(s)
		cross, errCross := trans.Cross(s)
		if err != want || errCount != want || errCross != want {
			t.Fatalf("Translate, Count, Cross: %d, %d, %d; want %d", err, errCount, errCross, want)
		}
		if err != api.OK && (!ocode.Same(c, api.Code{}) || len(counts) > 0 || len(cross) > 0) {
			t.Fatalf("with the error %d: %v, %v, %v", err, c, counts, cross)
		}
		if err != api.OK {
			continue
		}
		if want, _ := modelOf(s); !ocode.Same(c, want) {
			t.Fatalf("%v:\n got %s\nwant %s", s, written(c.Ops), written(want.Ops))
		}
	}
	for _, err := range []api.Errno{api.OK, api.ErrForm, api.ErrNone, api.ErrKind, api.ErrConst, api.ErrPlace, api.ErrTwice} {
		if ends[err] < 10 {
			t.Errorf("ends are %v", ends)
		}
	}
}

// spoil changes one node below some.
func (m *maker) spoil(l []api.Node) {
	if len(l) == 0 {
		return
	}
	n := &l[m.Intn(len(l))]
	for len(n.L) > 0 && !m.chance(8) {
		n = &n.L[m.Intn(len(n.L))]
	}
	alike := []int{api.CBreak, api.CLoop, api.CEndcase, api.CReturn, api.CNull}
	switch choice := m.Intn(7); {
	case slices.Contains(alike, n.Op):
		n.Op = alike[m.Intn(5)]
	case choice == 0:
		n.Op = m.Intn(66)
	case choice == 1:
		n.N += m.Intn(5) - 2
	case choice == 2:
		n.L = n.L[:m.Intn(len(n.L)+1)]
	case choice < 5 && n.Op < api.CAssign:
		*n = api.Node{Op: api.EName, S: m.pick("a", "b", "c", "d", "k", "zz", "start")}
	default:
		n.S = m.pick("", "a", "b", "c", "d", "k", "zz", "start")
	}
}

// R3, R4

func TestArgumentsAreLeftAsTheyAre(t *testing.T) {
	m := newMaker(80)
	for range 300 {
		s := mustParse(t, plain(m.section()))
		before := copied(api.Node{L: s.Decls})
		c := mustTranslate(t, s)
		counts, _ := trans.Count(s)
		cross, _ := trans.Cross(s)
		text, _ := ocode.Text(c)
		wantCounts, wantCross := slices.Clone(counts), slices.Clone(cross)
		// What is done to results changes nothing.
		for _, d := range c.Data {
			clear(d.Words)
		}
		clear(c.Data)
		clear(c.Ops)
		clear(c.Globals)
		clear(counts)
		clear(cross)
		if !parse.Same(api.Section{Decls: before.L}, api.Section{Decls: s.Decls}) {
			t.Fatalf("the tree is changed: %v; was %v", s.Decls, before.L)
		}
		again, _ := ocode.Text(mustTranslate(t, s))
		counts, _ = trans.Count(s)
		cross, _ = trans.Cross(s)
		if again != text || !slices.Equal(counts, wantCounts) || !slices.Equal(cross, wantCross) {
			t.Fatalf("another result for the same tree:\n%s\nand\n%s", text, again)
		}
	}
}
