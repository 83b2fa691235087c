package trans_test

import (
	"slices"
	"strconv"
	"strings"
	"testing"

	"bluebell/api"
	"bluebell/ocode"
	"bluebell/parse"
	"bluebell/scope"
	"bluebell/trans"
)

// P7.1: sections.

func TestExamplesOfTheChapter(t *testing.T) {
	checkCode(t, "let start() be wrch(65)", "enter 1 0, stack 4, num 65, global 3, call 2, stack 2, back")
	checkCode(t, "let f(x, y) be x := y", "enter 1 2, local 3, putl 2, back")
}

func TestSectionsWithoutProcedures(t *testing.T) {
	for _, src := range []string{"", "manifest { a = 1 }", "global { g : 20 }", "manifest { } static { } global { }"} {
		if c := mustCompile(t, src); !ocode.Same(c, api.Code{}) {
			t.Errorf("Compile(%q) = %v; want nothing", src, c)
		}
	}
	want := api.Code{Name: "only data", Data: []api.Data{words(1), words(-5)}}
	if c := mustCompile(t, "section \"only data\" static { a = 1 } global { g : 20 } static { b = - 5 }"); !ocode.Same(c, want) {
		t.Errorf("code is %v; want %v", c, want)
	}
}

func TestNamesOfSections(t *testing.T) {
	for src, want := range map[string]string{"let f() = 1": "", "section \"\" let f() = 1": "", "section \"a b\" let f() = 1": "a b", "section \"*n*\"**\"": "\n\"*"} {
		if c := mustCompile(t, src); c.Name != want {
			t.Errorf("Compile(%q) has the name %q; want %q", src, c.Name, want)
		}
	}
}

func TestProceduresInOrder(t *testing.T) {
	checkCode(t, "let b(x) = a(x) and a(y) be b(y) static { s = 1 } let start() be a(s)",
		"enter 1 1, stack 5, local 2, proc 2, call 3, return, enter 2 1, stack 5, local 2, proc 1, call 3, stack 3, back, enter 3 0, stack 4, static 0, proc 2, call 2, stack 2, back")
	if c := mustCompile(t, "let b(x) = 1 let a() = 1 let c() = 2"); c.Procs != 3 || c.Labels != 0 {
		t.Errorf("code is %v", c)
	}
}

// Labels are numbered through the whole section.
func TestLabelsOfProcedures(t *testing.T) {
	checkCode(t, "let f(x) be if x do { } let g(x) = x -> 1, 2 let h() be { l : goto l }",
		"enter 1 1, local 2, false 1, label 1, stack 3, back, enter 2 1, local 2, false 2, num 1, jump 3, label 2, stack 3, num 2, label 3, stack 4, return, enter 3 0, label 4, stack 2, jump 4, back")
	if c := mustCompile(t, "let f(x) be if x do { } let h() be { l : goto l }"); c.Labels != 2 || c.Procs != 2 {
		t.Errorf("code is %v", c)
	}
}

func TestEntries(t *testing.T) {
	for src, want := range map[string][]api.Entry{
		"let f() = 1":                                                        nil,
		"global { g : 20 ; h : 21 } let f() = g":                             nil,
		"let start() be { }":                                                 {{Global: 1, Proc: 1}},
		"let f() = 1 let start(x) = x":                                       {{Global: 1, Proc: 2}},
		"global { g : 199 } let g() = 1":                                     {{Global: 199, Proc: 1}},
		"let f() = 1 let g() = 1 global { g : 12 }":                          {{Global: 12, Proc: 2}},
		"global { h : 30 ; g : 20 } let g() = 1 let start() = 1 let h() = 1": {{Global: 20, Proc: 1}, {Global: 1, Proc: 2}, {Global: 30, Proc: 3}},
	} {
		if c := mustCompile(t, src); !slices.Equal(c.Globals, want) {
			t.Errorf("Compile(%q) has the entries %v; want %v", src, c.Globals, want)
		}
	}
}

// Translate takes trees that come from no source, wherever their nodes are said to begin.
func TestTreesWithoutPlaces(t *testing.T) {
	name := func(s string) api.Node { return api.Node{Op: api.EName, S: s} }
	body := api.Node{Op: api.CAssign, N: 1, L: []api.Node{name("x"), {Op: api.ENum, N: 5, At: -7}}, At: 1 << 40}
	s := api.Section{Name: "tree", Decls: []api.Node{{Op: api.DProc, S: "f", N: 1, L: []api.Node{name("x"), body}}}}
	want := api.Code{Name: "tree", Ops: ops("enter 1 1, num 5, putl 2, back"), Procs: 1}
	if c := mustTranslate(t, s); !ocode.Same(c, want) {
		t.Errorf("code is %v; want %v", c, want)
	}
}

// Each line has a source that is at a limit, and one that goes beyond.
func TestLimits(t *testing.T) {
	fill := func(src, part string, count int) string {
		return strings.ReplaceAll(src, "#", strings.Repeat(part, count))
	}
	long := "wrch(\"" + strings.Repeat("x", 100) + "\") ; " // 51 words
	cases := func(n int) string {
		var b strings.Builder
		for i := range n {
			b.WriteString("case " + strconv.Itoa(i) + ":;")
		}
		return b.String()
	}
	// A CFor of nothing has 19 instructions, a return has one, the procedure two of its own.
	count, rest := (api.MaxOps-2)/19, (api.MaxOps-2)%19
	loops := "let f() be { " + strings.Repeat("for i = 1 to 1 do;", count)
	for what, src := range map[string]struct{ fits, exceeds string }{
		"instructions":      {loops + strings.Repeat("return ; ", rest) + "}", loops + strings.Repeat("return ; ", rest+1) + "}"},
		"areas of statics":  {statics(2000), statics(2001)},
		"areas of strings":  {fill("let f() be { # }", "f(\"\") ; ", 2000), fill("let f() be { # }", "f(\"\") ; ", 2001)},
		"words of tables":   {fill("let f() be { # }", tableOf(100)+" ; ", api.StaticSize/100), fill("let f() be { # wrch(\"\") }", tableOf(100)+" ; ", api.StaticSize/100)},
		"words of strings":  {fill("let f() be { # "+tableOf(api.StaticSize%51)+" }", long, api.StaticSize/51), fill("let f() be { # "+tableOf(api.StaticSize%51+1)+" }", long, api.StaticSize/51)},
		"procedures":        {procedures(api.MaxProcs), procedures(api.MaxProcs + 1)},
		"cases of a switch": {"let f(x) be switchon x into { " + cases(1000) + " }", "let f(x) be switchon x into { " + cases(1001) + " }"},
	} {
		mustCompile(t, src.fits)
		if c, err, at := trans.Compile(src.exceeds); err != api.ErrLimit || at != 0 || !ocode.Same(c, api.Code{}) {
			t.Errorf("too many %s: %d at %d, %d instructions", what, err, at, len(c.Ops))
		}
		checkLimit(t, what, mustParse(t, src.exceeds))
	}
}

// Labels that are too many are always instructions that are too many, too: each one has two of its own.
func TestTooManyLabels(t *testing.T) {
	block := api.Node{Op: api.CBlock}
	for range 20001/(2*(api.MaxNest-3)) + 1 {
		n := api.Node{Op: api.CBreak}
		for range api.MaxNest - 3 {
			n = api.Node{Op: api.CRepeat, L: []api.Node{n}}
		}
		block.L = append(block.L, n)
	}
	checkLimit(t, "labels", api.Section{Decls: []api.Node{{Op: api.DProc, S: "f", N: 1, L: []api.Node{block}}}})
}

// checkLimit takes a section that scope.Check passes, but that is too great.
func checkLimit(t *testing.T, what string, s api.Section) {
	t.Helper()
	if err, at := scope.Check(s); err != api.OK {
		t.Fatalf("%s: scope.Check: %d at %d", what, err, at)
	}
	if c, err := trans.Translate(s); err != api.ErrLimit || !ocode.Same(c, api.Code{}) {
		t.Errorf("%s: Translate = %d", what, err)
	}
	if l, err := trans.Count(s); err != api.ErrLimit || len(l) != 0 {
		t.Errorf("%s: Count = %v, %d", what, l, err)
	}
	if l, err := trans.Cross(s); err != api.ErrLimit || len(l) != 0 {
		t.Errorf("%s: Cross = %v, %d", what, l, err)
	}
}

// tableOf calls something with a table of so many words.
func tableOf(n int) string {
	return "wrch(table(" + strings.Repeat("1,", n-1) + "1))"
}

// letters is a name for a number.
func letters(n int) string {
	s := ""
	for range 4 {
		s += string(rune('a' + n%26))
		n /= 26
	}
	return "n" + s
}

func statics(n int) string {
	var l []string
	for i := range n {
		l = append(l, letters(i)+"=0")
	}
	return "static { " + strings.Join(l, ";") + " }"
}

func procedures(n int) string {
	var b strings.Builder
	for i := range n {
		b.WriteString("let " + letters(i) + "()=0 ")
	}
	return b.String()
}

// 4000 is the greatest depth; each line has a body that comes to it, with the vectors' sizes, and one that goes beyond.
func TestDepths(t *testing.T) {
	// The depth is 2 at first; a vec n is n + 2.
	pairs(`
		{ let v = vec 2000 ; let w = vec 1994 }               => { let v = vec 2000 ; let w = vec 1995 }
		{ let v = vec 2000 ; let w = vec 1992 ; let x = vec 0 } => { let v = vec 2000 ; let w = vec 1992 ; let x = vec 1 }
		{ let v = vec 2000 ; let w = vec 1993 ; v := w }      => { let v = vec 2000 ; let w = vec 1994 ; v := w }
		{ let v = vec 2000 ; let w = vec 1992 ; v := w + v }  => { let v = vec 2000 ; let w = vec 1993 ; v := w + v }
		{ let v = vec 2000 ; let w = vec 1993 ; let x = 1 }   => { let v = vec 2000 ; let w = vec 1993 ; let x, y = 1, 2 }
		{ let v = vec 2000 ; let w = vec 1991 ; f() }         => { let v = vec 2000 ; let w = vec 1992 ; f() }
		{ let v = vec 2000 ; let w = vec 1990 ; f(v) }        => { let v = vec 2000 ; let w = vec 1991 ; f(v) }
		{ let v = vec 2000 ; let w = vec 1990 ; finish }      => { let v = vec 2000 ; let w = vec 1991 ; finish }
		{ let v = vec 2000 ; let w = vec 1993 ; v := valof { } } => { let v = vec 2000 ; let w = vec 1994 ; v := valof { } }
		{ let v = vec 2000 ; let w = vec 1990 ; for i = 1 to 2 do { } } => { let v = vec 2000 ; let w = vec 1991 ; for i = 1 to 2 do { } }
		{ let v = vec 2000 ; let w = vec 1993 ; v := v -> w, v } => { let v = vec 2000 ; let w = vec 1994 ; v := v -> w, v }
		{ let v = vec 2000 ; let w = vec 1990 ; slct(0, 0, 0) of v := w } => { let v = vec 2000 ; let w = vec 1991 ; slct(0, 0, 0) of v := w }
		{ let v = vec 2000 ; let w = vec 1990 ; slct(1, 0, 0) of v := w } => { let v = vec 2000 ; let w = vec 1991 ; slct(1, 0, 0) of v := w }
		{ return ; { let v = vec 2000 ; let w = vec 1994 } }  => { return ; { let v = vec 2000 ; let w = vec 1995 } }
	`, func(fits, exceeds string) {
		s := mustParse(t, "let f() be "+exceeds)
		checkLimit(t, exceeds, s)
		if c, err, at := trans.Compile("let f() be " + exceeds); err != api.ErrLimit || at != 0 || !ocode.Same(c, api.Code{}) {
			t.Errorf("%s: %d at %d", exceeds, err, at)
		}
		room, err := ocode.Room(mustCompile(t, "let f() be "+fits))
		if err != api.OK || room[0] != 4000 {
			t.Errorf("%s: room %v, %d", fits, room, err)
		}
	})
}

// P7.1: errors.

func TestErrorsOfCompile(t *testing.T) {
	for _, x := range []struct {
		err    api.Errno
		marked string // ^ stands before the place of the error
	}{
		{api.ErrByte, "let f() = ^A"},
		{api.ErrText, "let f() = ^\"a"},
		{api.ErrBig, "let f() = ^99999999999"},
		{api.ErrToken, "let f() = ^"},
		{api.ErrToken, "let f() be { let x = 1 ^"},
		{api.ErrToken, "let f() be a, b := 1^"},
		{api.ErrLimit, "let f(a, b, c, d, e, g, h, i, ^j) = 1"},
		{api.ErrDeep, "static { s = 1 } ^let f() = " + strings.Repeat("- (", 40) + "1" + strings.Repeat(")", 40)},
		{api.ErrTwice, "let f() = 1 ^let f() = 2"},
		{api.ErrConst, "manifest { a = ^b }"},
		{api.ErrZero, "static { a = ^1 / 0 }"},
		{api.ErrRange, "global { a : ^11 }"},
		{api.ErrNone, "let f() = 1 + ^x"},
		{api.ErrNone, "let f() be ^goto l"},
		{api.ErrKind, "let f() be ^f := 1"},
		{api.ErrKind, "let f() = @ ^wrch"},
		{api.ErrConst, "let f(x) = table(1, ^x)"},
		{api.ErrRange, "let f() be { let v = vec ^" + strconv.Itoa(api.MaxVec+1) + " }"},
		{api.ErrPlace, "let f() be ^break"},
		{api.ErrPlace, "let f() be ^resultis 1"},
		{api.ErrTwice, "let f(x, ^x) = 1"},
	} {
		place := strings.Index(x.marked, "^")
		src := x.marked[:place] + x.marked[place+1:]
		if c, err, at := trans.Compile(src); err != x.err || at != place || !ocode.Same(c, api.Code{}) {
			t.Errorf("Compile(%q) = %v, %d at %d; want %d at %d", src, c, err, at, x.err, place)
		}
		s, err, _ := parse.Parse(src)
		if err != api.OK {
			continue
		}
		if c, err := trans.Translate(s); err != x.err || !ocode.Same(c, api.Code{}) {
			t.Errorf("Translate of %q = %v, %d; want %d", src, c, err, x.err)
		}
		if l, err := trans.Count(s); err != x.err || len(l) != 0 {
			t.Errorf("Count of %q = %v, %d; want %d", src, l, err, x.err)
		}
		if l, err := trans.Cross(s); err != x.err || len(l) != 0 {
			t.Errorf("Cross of %q = %v, %d; want %d", src, l, err, x.err)
		}
	}
}

// An error of the source comes before one of its names, and that before a limit of the code.
func TestFirstErrors(t *testing.T) {
	deep := "let f() be { let v = vec 2000 ; let w = vec 2000 } "
	for src, want := range map[string]api.Errno{deep + "let g() = x": api.ErrNone, deep + "let g() = x )": api.ErrToken, deep + "let g() = x ) $": api.ErrByte, deep: api.ErrLimit} {
		if _, err, _ := trans.Compile(src); err != want {
			t.Errorf("Compile(%q) = %d; want %d", src, err, want)
		}
	}
}

func TestErrorsOfTrees(t *testing.T) {
	one := api.Node{Op: api.ENum, N: 1}
	deep := one
	for range api.MaxNest {
		deep = api.Node{Op: api.EUn, N: api.Neg, L: []api.Node{deep}}
	}
	wide := api.Node{Op: api.ECall, L: slices.Repeat([]api.Node{one}, api.MaxArgs+2)}
	for _, x := range []struct {
		err  api.Errno
		body api.Node
	}{
		{api.ErrForm, api.Node{}},
		{api.ErrForm, api.Node{Op: api.CNull}},
		{api.ErrForm, api.Node{Op: api.EName, S: "if"}},
		{api.ErrForm, api.Node{Op: 99, L: []api.Node{deep, wide}}},
		{api.ErrLimit, wide},
		{api.ErrDeep, deep},
		{api.ErrNone, api.Node{Op: api.EName, S: "x"}},
	} {
		s := api.Section{Decls: []api.Node{{Op: api.DProc, S: "f", L: []api.Node{x.body}}}}
		c, err := trans.Translate(s)
		counts, errCount := trans.Count(s)
		cross, errCross := trans.Cross(s)
		if err != x.err || errCount != x.err || errCross != x.err || !ocode.Same(c, api.Code{}) || len(counts)+len(cross) > 0 {
			t.Errorf("body %v: %d, %d, %d; want %d", x.body, err, errCount, errCross, x.err)
		}
	}
	for _, s := range []api.Section{{Decls: []api.Node{{}}}, {Name: "\x01"}, {Decls: []api.Node{one}}, {Decls: []api.Node{{Op: api.DProc, S: "f"}}}} {
		if c, err := trans.Translate(s); err != api.ErrForm || !ocode.Same(c, api.Code{}) {
			t.Errorf("Translate(%v) = %v, %d", s, c, err)
		}
	}
}

// P7.2

func TestExpression(t *testing.T) {
	for src, want := range map[string]string{
		"1 + 2":                  "enter 1 0, num 1, num 2, bin add, return",
		"start":                  "enter 1 0, global 1, return",
		"rdch()":                 "enter 1 0, stack 4, global 2, call 2, return",
		"f(1) let f(x) = x":      "enter 1 0, stack 4, num 1, proc 2, call 2, return, enter 2 1, local 2, return",
		"  valof { resultis 7 }": "enter 1 0, num 7, result 1, num 0, result 1, label 1, take 2, return",
	} {
		c, err, at := trans.Expression(src)
		same := mustCompile(t, "let start ( ) = "+src)
		if err != api.OK || at != 0 || !slices.Equal(c.Ops, ops(want)) || !ocode.Same(c, same) || !slices.Equal(c.Globals, []api.Entry{{Global: 1, Proc: 1}}) {
			t.Errorf("Expression(%q) = %v, %d at %d; want %s", src, c, err, at, want)
		}
	}
}

func TestErrorsOfExpression(t *testing.T) {
	for _, x := range []struct {
		err    api.Errno
		marked string
	}{
		{api.ErrToken, "^"},
		{api.ErrToken, "^be"},
		{api.ErrToken, "1 +^"},
		{api.ErrToken, "1 ^:= 2"},
		{api.ErrByte, "^A"},
		{api.ErrByte, "1 + 2 ^$"},
		{api.ErrText, "1 + ^'ab'"},
		{api.ErrNone, "1 + ^x"},
		{api.ErrNone, "^x"},
		{api.ErrKind, "@ ^3"},
		{api.ErrConst, "table(1, ^start)"},
		{api.ErrPlace, "valof { ^return }"},
		{api.ErrTwice, "1 ^let start() be { }"},
		// These are told at the declaration, which begins before the expression, or for the whole.
		{api.ErrDeep, "^" + strings.Repeat("-(", 40) + "1" + strings.Repeat(")", 40)},
		{api.ErrDeep, "1 ^let f() = " + strings.Repeat("-(", 40) + "1" + strings.Repeat(")", 40)},
		{api.ErrLimit, "^valof { let v = vec 2000 ; let w = vec 2000 }"},
	} {
		place := strings.Index(x.marked, "^")
		src := x.marked[:place] + x.marked[place+1:]
		if c, err, at := trans.Expression(src); err != x.err || at != place || !ocode.Same(c, api.Code{}) {
			t.Errorf("Expression(%q) = %v, %d at %d; want %d at %d", src, c, err, at, x.err, place)
		}
	}
}

// The head counts for the bytes of a source.
func TestGreatExpressions(t *testing.T) {
	blanks := strings.Repeat(" ", api.MaxSource-17)
	if _, err, at := trans.Expression(blanks + "1"); err != api.OK || at != 0 {
		t.Errorf("%d at %d", err, at)
	}
	_, want, place := parse.Parse("let start ( ) = " + blanks + " 1")
	if _, err, at := trans.Expression(blanks + " 1"); err != want || want != api.ErrLimit || at != max(0, place-16) {
		t.Errorf("%d at %d; want %d, at %d of the whole", err, at, want, place)
	}
}

// P7.3

func TestCount(t *testing.T) {
	for src, want := range map[string][]int{
		"":                 nil,
		"static { a = 1 }": nil,
		"let f() be { }":   {2},
		"let f() = 1":      {3},
		"let f() be { } let g() = 1 let h(x) be x := f(g())":               {2, 3, 9},
		"let f(x) be if x do return static { s = 1 } let g(x) = s + \"a\"": {7, 5},
		"global { g : 30 } let f() = g() let g() = f let h(x) = x":         {5, 3, 3},
	} {
		if l, err := trans.Count(mustParse(t, src)); !slices.Equal(l, want) || err != api.OK {
			t.Errorf("Count(%q) = %v, %d; want %v", src, l, err, want)
		}
	}
}

func TestCross(t *testing.T) {
	for src, want := range map[string][][2]int{
		"":                                   nil,
		"let f() = 1":                        nil,
		"let f() = f":                        {{1, 1}},
		"let f() be { f() ; f() ; wrch(f) }": {{1, 1}},
		"let f() = g() let g() = h() let h() = f()":                              {{1, 2}, {2, 3}, {3, 1}},
		"let f() = h() + g() let g() = 1 let h() = f":                            {{1, 3}, {1, 2}, {3, 1}},
		"let f() = g(h) let g(x) = x let h() = 1":                                {{1, 3}, {1, 2}},
		"let f() = g(h) + g(h) let g(x) = x let h() = 1":                         {{1, 3}, {1, 2}},
		"global { g : 30 } let f() = g() let g() = f let h(x) = x":               {{1, 2}, {2, 1}},
		"let g() = g() + h global { g : 30 ; h : 31 } let f() = g":               {{1, 1}, {2, 1}},
		"let f() = start() let start() be f()":                                   {{1, 2}, {2, 1}},
		"let start() be start()":                                                 {{1, 1}},
		"let f() = start + wrch":                                                 nil,
		"global { g : 30 ; h : 12 } let f() = g + h":                             nil,
		"global { g : 30 } let f() be { g := 1 ; wrch(@ g) }":                    nil,
		"let f(g) = g let g(f) be { let g = f ; f := g }":                        nil,
		"let f() be finish let start() be f()":                                   {{2, 1}},
		"let f() be { return ; g() } let g() be { }":                             {{1, 2}},
		"let f() be { } let g() be { f() ; g() } let h() be { g() ; f() ; h() }": {{2, 1}, {2, 2}, {3, 2}, {3, 1}, {3, 3}},
	} {
		if l, err := trans.Cross(mustParse(t, src)); !slices.Equal(l, want) || err != api.OK {
			t.Errorf("Cross(%q) = %v, %d; want %v", src, l, err, want)
		}
	}
}
