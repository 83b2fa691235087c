package scope_test

import (
	"slices"
	"testing"

	"bluebell/api"
	"bluebell/parse"
	"bluebell/scope"
)

// read returns a section with the places that its nodes have in its text, and the text.
func read(t *testing.T, s api.Section) (api.Section, string) {
	t.Helper()
	text, err := parse.Print(s)
	if err != api.OK {
		t.Fatalf("Print: %d", err)
	}
	return mustParse(t, text), text
}

// P4.1 to P4.4: the package and the model agree, on sections that pass and on those that slip.
func TestTheModelAgrees(t *testing.T) {
	ends := map[api.Errno]int{}
	for seed := range int64(8000) {
		m := newMaker(seed, []int{0, 20, 50, 150, 500}[seed%5])
		s, text := read(t, m.section())
		want := modelCheck(s)
		if err, at := scope.Check(s); err != want.err || at != want.at {
			t.Fatalf("seed %d: Check(%q) = %d at %d; want %d at %d", seed, text, err, at, want.err, want.at)
		}
		if m.rate == 0 && want != fine {
			t.Fatalf("seed %d: %q does not pass", seed, text)
		}
		ends[want.err]++
		for _, d := range s.Decls {
			if d.Op == api.DProc {
				checkList(t, "Locals", text, scope.Locals(d), modelLocals(d))
				checkList(t, "Free", text, scope.Free(d), modelFree(d))
			}
		}
		l, err := scope.Calls(s)
		if err != want.err || want.err == api.OK && !slices.Equal(l, modelCalls(s)) || want.err != api.OK && l != nil {
			t.Fatalf("Calls(%q) = %v, %d; want %v", text, l, err, modelCalls(s))
		}
	}
	for _, err := range []api.Errno{api.OK, api.ErrNone, api.ErrKind, api.ErrConst, api.ErrZero, api.ErrRange, api.ErrPlace, api.ErrTwice} {
		if ends[err] < 10 {
			t.Errorf("only %d sections end with %d", ends[err], err)
		}
	}
}

// P4.5

// at returns where a node is in its tree, which is the same for all spots of the tree.
func (s *spot) at() *api.Node {
	if s.up == nil {
		return nil
	}
	return &s.up.L[s.nth]
}

// renamed returns a tree in which a local has another name, and all that means it.
func renamed(s *spot, declaring *api.Node, from, to string) api.Node {
	n := s.Node
	switch {
	case s.at() == declaring:
		if n.S == from {
			n.S = to
		}
	case n.Op == api.EName && s.isDeclaring():
		if s.up.at() == declaring && n.S == from {
			n.S = to
		}
	case n.Op == api.EName && n.S == from && s.local(from) == declaring:
		n.S = to
	}
	n.L = nil
	for i := range s.L {
		n.L = append(n.L, renamed(&spot{s.L[i], s, i}, declaring, from, to))
	}
	return n
}

// local is a name and where it is declared.
type local struct {
	declaring *api.Node
	name      string
}

func localsOf(proc api.Node) []local {
	var l []local
	for i, param := range proc.L[:len(proc.L)-1] {
		l = append(l, local{&proc.L[i], param.S})
	}
	for _, s := range spotsOf(proc, nil, 0) {
		for _, name := range declares(s.Node) {
			l = append(l, local{s.at(), name})
		}
		if s.Op == api.CFor {
			l = append(l, local{s.at(), s.S})
		}
	}
	return l
}

func TestNamesOfLocalsDoNotMatter(t *testing.T) {
	const to = "new_name"
	count := 0
	for seed := range int64(400) {
		s, text := read(t, newMaker(seed, int(seed%2)*200).section())
		err, at := scope.Check(s)
		for i, d := range s.Decls {
			if d.Op != api.DProc || err == api.ErrTwice {
				continue
			}
			for _, x := range localsOf(d) {
				other := renamed(&spot{d, nil, 0}, x.declaring, x.name, to)
				all := api.Section{Name: s.Name, Decls: slices.Clone(s.Decls)}
				all.Decls[i] = other
				if e, a := scope.Check(all); e != err || a != at {
					t.Fatalf("%s of %q in %q: Check tells %d at %d; before %d at %d", x.name, d.S, text, e, a, err, at)
				}
				checkList(t, "Free", text, scope.Free(other), scope.Free(d))
				if l := scope.Locals(other); !slices.Contains(l, to) {
					t.Fatalf("%s of %q in %q: Locals = %v", x.name, d.S, text, l)
				}
				count++
			}
		}
	}
	if count < 1000 {
		t.Errorf("only %d locals", count)
	}
}

// P4.6

func TestOrderOfProceduresDoesNotMatter(t *testing.T) {
	for seed := range int64(1000) {
		m := newMaker(seed, 0)
		s := m.section()
		slices.SortStableFunc(s.Decls, func(a, b api.Node) int { return rank(a) - rank(b) })
		var places []int
		for i, d := range s.Decls {
			if d.Op == api.DProc {
				places = append(places, i)
			}
		}
		checkPasses(t, s)
		for range 5 {
			m.Shuffle(len(places), func(i, j int) {
				i, j = places[i], places[j]
				s.Decls[i], s.Decls[j] = s.Decls[j], s.Decls[i]
			})
			checkPasses(t, s)
		}
	}
}

// rank puts manifests ahead.
func rank(d api.Node) int {
	if d.Op == api.DManifest {
		return 0
	}
	return 1
}

func checkPasses(t *testing.T, s api.Section) {
	t.Helper()
	s, text := read(t, s)
	if err, at := scope.Check(s); err != api.OK || at != -1 {
		t.Fatalf("Check(%q) = %d at %d", text, err, at)
	}
}

func TestFreeNamesAreOnesOfTheSection(t *testing.T) {
	for seed := range int64(1000) {
		s, text := read(t, newMaker(seed, 0).section())
		tops, _ := scope.Tops(s)
		for _, d := range s.Decls {
			for _, name := range scope.Free(d) {
				if top, ok := scope.Find(tops, name); !ok || top.Name != name {
					t.Errorf("%q in %q is no name of the section", name, text)
				}
			}
		}
	}
}

// P4.2, P4.3: what Tops tells of sections that pass fits their declarations.
func TestTopsOfManySections(t *testing.T) {
	for seed := range int64(1000) {
		s, text := read(t, newMaker(seed, 0).section())
		tops, err := scope.Tops(s)
		if err != api.OK {
			t.Fatalf("Tops(%q): %d", text, err)
		}
		var known []scope.Top
		statics, procs := 0, 0
		for i, n := range declaring(s) {
			want := scope.Top{Name: n.S, Kind: tops[i].Kind}
			switch tops[i].Kind {
			case scope.Proc:
				procs++
				want.N = procs
				for _, other := range tops {
					if other.Name == n.S && other.Kind == scope.Global {
						want.Global = other.N
					}
				}
			case scope.Static:
				want.N = statics
				statics++
			default:
				want.N, err = scope.Eval(n.L[0], known)
			}
			if tops[i] != want || err != api.OK {
				t.Fatalf("Tops(%q)[%d] = %v, %d; want %v", text, i, tops[i], err, want)
			}
			// All manifests known change nothing.
			if n.Op == api.DConst {
				a, errA := scope.Eval(n.L[0], known)
				b, errB := scope.Eval(n.L[0], tops)
				if a != b || errA != api.OK || errB != api.OK {
					t.Fatalf("Eval of %s in %q = %d, %d and %d, %d", n.S, text, a, errA, b, errB)
				}
			}
			known = append(known, tops[i])
		}
		if len(known) != len(tops) {
			t.Fatalf("Tops(%q) = %v", text, tops)
		}
	}
}

// declaring returns the DConst and DProc of a section.
func declaring(s api.Section) []api.Node {
	var l []api.Node
	for _, d := range s.Decls {
		if d.Op == api.DProc {
			l = append(l, d)
		} else {
			l = append(l, d.L...)
		}
	}
	return l
}

// R3, R4

func copied(n api.Node) api.Node {
	var l []api.Node
	for _, part := range n.L {
		l = append(l, copied(part))
	}
	n.L = l
	return n
}

func isSame(a, b api.Node) bool {
	return a.Op == b.Op && a.N == b.N && a.S == b.S && a.At == b.At && slices.EqualFunc(a.L, b.L, isSame)
}

func TestArgumentsAreLeftAsTheyAre(t *testing.T) {
	for seed := range int64(200) {
		s, text := read(t, newMaker(seed, int(seed%2)*50).section())
		before := copied(api.Node{L: s.Decls})
		tops, _ := scope.Tops(s)
		list := slices.Clone(tops)
		again, _ := scope.Tops(s)
		calls, _ := scope.Calls(s)
		scope.Check(s)
		scope.Whole(s)
		for _, d := range s.Decls {
			locals, free := scope.Locals(d), scope.Free(d)
			clear(locals)
			clear(free)
			for _, c := range d.L {
				scope.Eval(c, tops)
			}
		}
		scope.Find(tops, "a")
		if !slices.Equal(tops, list) || !slices.Equal(again, list) {
			t.Errorf("%q: the list of names becomes %v, and is %v again; it was %v", text, tops, again, list)
		}
		clear(tops)
		clear(again)
		clear(calls)
		if !isSame(before, api.Node{L: s.Decls}) {
			t.Errorf("%q: the tree is changed", text)
		}
		if l, _ := scope.Tops(s); !slices.Equal(l, list) {
			t.Errorf("Tops(%q) = %v, %v behind a change of its result", text, list, l)
		}
	}
}

// R1: trees of any kind are examined, and an error of package parse comes first.
func TestTreesOfAnyKind(t *testing.T) {
	ends := map[api.Errno]int{}
	for seed := range int64(4000) {
		m := newMaker(seed, 100)
		s := api.Section{Decls: copied(api.Node{L: m.section().Decls}).L}
		for range 1 + m.Intn(2) {
			m.spoil(s.Decls)
		}
		want, place := parse.Check(s), -1
		if want == api.OK {
			told := modelCheck(s)
			want, place = told.err, told.at
		}
		if err, at := scope.Check(s); err != want || at != place {
			t.Fatalf("seed %d: Check = %d at %d; want %d at %d", seed, err, at, want, place)
		}
		ends[want]++
		tops, err := scope.Tops(s)
		if err != want || err != api.OK && tops != nil {
			t.Errorf("seed %d: Tops = %v, %d; want %d", seed, tops, err, want)
		}
		if l, err := scope.Calls(s); err != want || err != api.OK && l != nil {
			t.Errorf("seed %d: Calls = %v, %d; want %d", seed, l, err, want)
		}
		if err := scope.Whole(s); err != want && (want != api.OK || err != api.ErrStart) {
			t.Errorf("seed %d: Whole = %d; want %d", seed, err, want)
		}
		for _, n := range declaring(s) {
			isProc := n.Op == api.DProc && parse.Check(api.Section{Decls: []api.Node{n}}) == api.OK
			if l, other := scope.Locals(n), scope.Free(n); !isProc && (l != nil || other != nil) {
				t.Errorf("seed %d: Locals and Free of what is no procedure: %v, %v", seed, l, other)
			}
			for _, part := range n.L {
				if value, err := scope.Eval(part, tops); err != api.OK && value != 0 || parse.CheckExpr(part) != api.OK && err != parse.CheckExpr(part) {
					t.Errorf("seed %d: Eval = %d, %d", seed, value, err)
				}
			}
		}
	}
	if ends[api.ErrForm] < 1000 || ends[api.OK] < 100 {
		t.Errorf("ends are %v", ends)
	}
}

// spoil changes one node below some.
func (m *maker) spoil(l []api.Node) {
	if len(l) == 0 {
		return
	}
	n := &l[m.Intn(len(l))]
	for len(n.L) > 0 && m.Intn(5) > 0 {
		n = &n.L[m.Intn(len(n.L))]
	}
	switch m.Intn(5) {
	case 0:
		n.Op = m.Intn(66)
	case 1:
		n.N += m.Intn(5) - 2
	case 2:
		n.S = []string{"", "a", "if", "zz", "\x00", "start"}[m.Intn(6)]
	case 3:
		n.L = n.L[:m.Intn(len(n.L)+1)]
	case 4:
		n.L = append(n.L, num(m.Intn(3)))
	}
}

// Sections at their limits are examined in time: long lists, and selectors in selectors down to the last level.
func TestGreatSections(t *testing.T) {
	decl := node(api.DManifest)
	for i := range api.MaxNodes/2 - 1 {
		decl.L = append(decl.L, api.Node{Op: api.DConst, S: "m" + digits(i), L: []api.Node{num(i)}})
	}
	s := api.Section{Decls: []api.Node{decl}}
	if l, err := scope.Tops(s); len(l) != api.MaxNodes/2-1 || err != api.OK || l[len(l)-1].N != len(l)-1 {
		t.Errorf("Tops of a great section: %d names, %d", len(l), err)
	}
	selectors := num(0)
	for range api.MaxNest - 2 {
		selectors = node(api.ESlct, num(0), num(0), selectors)
	}
	s = api.Section{Decls: []api.Node{{Op: api.DProc, S: "f", L: []api.Node{selectors}}}}
	if err, at := scope.Check(s); err != api.OK || at != -1 {
		t.Errorf("Check of selectors in selectors = %d at %d", err, at)
	}
}

// digits writes a number in letters.
func digits(i int) string {
	if i == 0 {
		return ""
	}
	return digits(i/26) + string(rune('a'+i%26))
}
