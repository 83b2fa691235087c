package parse_test

import (
	"math"
	"slices"
	"strings"
	"testing"

	"bluebell/api"
	"bluebell/parse"
)

// P3.2

// samples returns valid trees: each expression, each command and each declaration.
func samples() (exprs, commands, decls []api.Node) {
	a, one, nothing := name("a"), num(1), node(api.CNull)
	block := node(api.CBlock, nothing)
	call := node(api.ECall, a, one)
	constant := api.Node{Op: api.DConst, S: "a", L: []api.Node{one}}
	exprs = []api.Node{
		one, str("it"), node(api.ETrue), node(api.EFalse), node(api.EAny), a, call, node(api.ECall, call), node(api.ESub, a, one), node(api.EByte, a, one), node(api.ESel, a, one), node(api.ELoad, a), node(api.EAddr, a),
		node(api.ECond, a, one, a), node(api.EValof, block), node(api.ETable, one), node(api.ETable, one, a), node(api.ESlct, one, one, one),
		{Op: api.EUn, N: api.Neg, L: []api.Node{a}}, {Op: api.EUn, N: api.Not, L: []api.Node{a}},
	}
	for n := api.Mul; n <= api.Ge; n++ {
		exprs = append(exprs, api.Node{Op: api.EBin, N: n, L: []api.Node{a, one}})
	}
	commands = []api.Node{
		{Op: api.CAssign, N: 1, L: []api.Node{a, one}}, {Op: api.CAssign, N: 2, L: []api.Node{a, one, one, a}}, node(api.CCall, call), block, node(api.CBlock, nothing, block),
		node(api.CIf, a, nothing), node(api.CUnless, a, nothing), node(api.CWhile, a, nothing), node(api.CUntil, a, nothing), node(api.CTest, a, nothing, nothing),
		node(api.CRepeat, block), node(api.CRepWh, block, a), node(api.CRepUn, node(api.CRepeat, block), a),
		{Op: api.CFor, S: "i", L: []api.Node{one, one, nothing}}, {Op: api.CFor, S: "i", N: 1, L: []api.Node{one, one, one, nothing}}, node(api.CSwitch, a, block), node(api.CCase, one, nothing), node(api.CDefault, nothing),
		node(api.CBreak), node(api.CLoop), node(api.CEndcase), node(api.CReturn), node(api.CFinish), nothing, node(api.CResult, one), {Op: api.CGoto, S: "l"}, {Op: api.CLabel, S: "l", L: []api.Node{nothing}},
		node(api.CBlock, api.Node{Op: api.CLet, N: 1, L: []api.Node{a, one}}), node(api.CBlock, api.Node{Op: api.CLet, N: 2, L: []api.Node{a, a, one, a}}, api.Node{Op: api.CVec, S: "v", L: []api.Node{one}}),
	}
	decls = []api.Node{
		node(api.DManifest), node(api.DStatic), node(api.DGlobal), node(api.DManifest, constant), node(api.DStatic, constant, constant), node(api.DGlobal, constant),
		function(one), routine(nothing), {Op: api.DProc, S: "f", L: []api.Node{a, a, call}}, {Op: api.DProc, S: "f", N: 1, L: []api.Node{a, block}},
	}
	return exprs, commands, decls
}

// printError is how the errors of a command are told: PrintCommand has those of CheckExpr.
func printError(n api.Node) api.Errno {
	_, err := parse.PrintCommand(n)
	return err
}

func checkOne(d api.Node) api.Errno {
	return parse.Check(api.Section{Decls: []api.Node{d}})
}

func TestCheckOfValidTrees(t *testing.T) {
	exprs, commands, decls := samples()
	for _, n := range exprs {
		if err := parse.CheckExpr(n); err != api.OK {
			t.Errorf("CheckExpr(%s) = %d", show(n), err)
		}
		if err := checkOne(function(n)); err != api.OK {
			t.Errorf("Check(%s) = %d", show(n), err)
		}
	}
	for _, n := range commands {
		if err := printError(n); err != api.OK {
			t.Errorf("PrintCommand(%s): %d", show(n), err)
		}
		if err := checkOne(routine(n)); err != api.OK {
			t.Errorf("Check(%s) = %d", show(n), err)
		}
	}
	for _, s := range []string{"", "s", "it's\n\t*\"", strings.Repeat("s", api.MaxString)} {
		if err := parse.Check(api.Section{Name: s, Decls: decls}); err != api.OK {
			t.Errorf("Check(%q): %d", s, err)
		}
	}
	if err := parse.Check(api.Section{}); err != api.OK {
		t.Errorf("Check of nothing: %d", err)
	}
}

// Each tree is valid in its own place alone.
func TestCheckOfKinds(t *testing.T) {
	exprs, commands, decls := samples()
	items := []api.Node{{Op: api.CLet, N: 1, L: []api.Node{name("a"), num(1)}}, {Op: api.CVec, S: "v", L: []api.Node{num(1)}}}
	constant := api.Node{Op: api.DConst, S: "a", L: []api.Node{num(1)}}
	var unknown []api.Node
	for op := -1; op < 100; op++ {
		if opNames[op] == "" {
			unknown = append(unknown, node(op), node(op, num(1)), node(op, num(1), num(1)))
		}
	}
	unknown = append(unknown, node(math.MaxInt), node(math.MinInt))
	for _, n := range slices.Concat(commands, items, decls, []api.Node{constant}, unknown) {
		if err := parse.CheckExpr(n); err != api.ErrForm {
			t.Errorf("CheckExpr(%s) = %d", show(n), err)
		}
		for _, s := range []api.Node{function(n), node(api.DManifest, n), routine(node(api.CResult, n)), routine(node(api.CBlock, api.Node{Op: api.CVec, S: "v", L: []api.Node{n}}))} {
			if s.Op == api.DManifest && n.Op == api.DConst {
				continue
			}
			if err := checkOne(s); err != api.ErrForm {
				t.Errorf("Check(%s) = %d", show(s), err)
			}
		}
	}
	for _, n := range slices.Concat(exprs, items, decls, []api.Node{constant}, unknown) {
		for _, s := range []api.Node{n, node(api.CIf, num(1), n), node(api.CDefault, n), {Op: api.CLabel, S: "l", L: []api.Node{n}}, node(api.CTest, num(1), n, node(api.CNull)), node(api.CRepeat, n), {Op: api.CFor, S: "i", L: []api.Node{num(1), num(1), n}}} {
			if err := printError(s); err != api.ErrForm {
				t.Errorf("PrintCommand(%s): %d", show(s), err)
			}
		}
		if err := checkOne(routine(n)); err != api.ErrForm {
			t.Errorf("Check(%s) = %d", show(n), err)
		}
	}
	for _, n := range slices.Concat(exprs, commands, items, []api.Node{constant}, unknown) {
		if err := checkOne(n); err != api.ErrForm {
			t.Errorf("Check(%s) = %d", show(n), err)
		}
		if err := parse.Check(api.Section{Decls: []api.Node{decls[0], decls[6], n, decls[7]}}); err != api.ErrForm {
			t.Errorf("Check(%s) = %d", show(n), err)
		}
	}
	for _, n := range slices.Concat(exprs, decls, []api.Node{constant}, unknown) {
		if err := printError(node(api.CBlock, node(api.CNull), n)); err != api.ErrForm {
			t.Errorf("PrintCommand(%s): %d", show(n), err)
		}
	}
}

// Parts that take less than an expression, a command or an item.
func TestCheckOfNarrowPlaces(t *testing.T) {
	exprs, commands, _ := samples()
	for _, n := range slices.Concat(exprs, commands) {
		block, call, isName := n.Op == api.CBlock, n.Op == api.ECall, n.Op == api.EName
		repeatable := slices.Contains([]int{api.CAssign, api.CCall, api.CBlock, api.CBreak, api.CLoop, api.CEndcase, api.CReturn, api.CFinish, api.CResult, api.CGoto, api.CRepeat, api.CRepWh, api.CRepUn}, n.Op)
		for _, x := range []struct {
			n     api.Node
			valid bool
		}{
			{routine(node(api.CSwitch, num(1), n)), block}, {function(node(api.EValof, n)), block}, {routine(node(api.CCall, n)), call},
			{routine(node(api.CRepeat, n)), repeatable}, {routine(node(api.CRepWh, n, num(1))), repeatable}, {routine(node(api.CRepUn, n, num(1))), repeatable},
			{api.Node{Op: api.DProc, S: "f", L: []api.Node{n, num(1)}}, isName}, {api.Node{Op: api.DProc, S: "f", N: 1, L: []api.Node{name("a"), n, node(api.CNull)}}, isName},
			{routine(node(api.CBlock, api.Node{Op: api.CLet, N: 1, L: []api.Node{n, num(1)}})), isName}, {routine(node(api.CBlock, api.Node{Op: api.CLet, N: 2, L: []api.Node{name("a"), n, num(1), num(1)}})), isName},
		} {
			if err := checkOne(x.n); (err == api.OK) != x.valid || err != api.OK && err != api.ErrForm {
				t.Errorf("Check(%s) = %d", show(x.n), err)
			}
		}
	}
}

func usesN(op int) bool {
	return slices.Contains([]int{api.ENum, api.EBin, api.EUn, api.CAssign, api.CFor, api.CLet, api.DProc}, op)
}

func usesS(op int) bool {
	return slices.Contains([]int{api.EStr, api.EName, api.CFor, api.CGoto, api.CLabel, api.CVec, api.DConst, api.DProc}, op)
}

// takesMore tells what may have one part more.
func takesMore(op int) bool {
	return slices.Contains([]int{api.ECall, api.ETable, api.CBlock, api.DManifest, api.DStatic, api.DGlobal, api.DProc}, op)
}

// everyNode gives each sample, and how an error of it is told.
func everyNode(do func(n api.Node, check func(api.Node) api.Errno)) {
	exprs, commands, decls := samples()
	for _, n := range exprs {
		do(n, parse.CheckExpr)
	}
	for _, n := range commands {
		do(n, printError)
	}
	for _, n := range decls {
		do(n, checkOne)
		if n.Op == api.DManifest && len(n.L) > 0 {
			do(n.L[0], func(n api.Node) api.Errno { return checkOne(node(api.DManifest, n)) })
		}
	}
	let, vec := api.Node{Op: api.CLet, N: 1, L: []api.Node{name("a"), num(1)}}, api.Node{Op: api.CVec, S: "v", L: []api.Node{num(1)}}
	inBlock := func(n api.Node) api.Errno { return printError(node(api.CBlock, n)) }
	do(let, inBlock)
	do(vec, inBlock)
}

func TestCheckOfFields(t *testing.T) {
	everyNode(func(n api.Node, check func(api.Node) api.Errno) {
		want := func(x api.Node, want api.Errno) {
			t.Helper()
			if err := check(x); err != want {
				t.Errorf("the error of %s is %d; want %d", show(x), err, want)
			}
		}
		x := copied(n)
		x.At = -77
		want(x, api.OK)
		for _, other := range []int{-1, 1, 2, 18, 20, math.MaxInt, math.MinInt} {
			x = copied(n)
			x.N += other
			if !usesN(n.Op) {
				want(x, api.ErrForm)
			}
		}
		for _, other := range []string{"", "a", "if", "a b", "A", "\x00", strings.Repeat("a", api.MaxName+1)} {
			x = copied(n)
			x.S = other
			switch {
			case !usesS(n.Op) && other == "", other == "a" && usesS(n.Op), n.Op == api.EStr && other != "\x00":
				want(x, api.OK)
			default:
				want(x, api.ErrForm)
			}
		}
		x = copied(n)
		x.L = append(x.L, num(1))
		if !takesMore(n.Op) {
			want(x, api.ErrForm)
		}
		if len(n.L) > 0 {
			x = copied(n)
			x.L = x.L[:len(x.L)-1]
			if !takesMore(n.Op) || len(x.L) == 0 && !slices.Contains([]int{api.DManifest, api.DStatic, api.DGlobal}, n.Op) {
				want(x, api.ErrForm)
			}
		}
		for i := range n.L { // a wrong part
			x = copied(n)
			x.L[i] = api.Node{Op: api.ENum, S: "x"}
			want(x, api.ErrForm)
			x = copied(n)
			x.L[i] = api.Node{}
			want(x, api.ErrForm)
		}
	})
}

func TestCheckOfNumbersAndTexts(t *testing.T) {
	for n, want := range map[int]api.Errno{0: api.OK, -1: api.OK, math.MaxInt32: api.OK, math.MinInt32: api.OK, math.MaxInt32 + 1: api.ErrForm, math.MinInt32 - 1: api.ErrForm, math.MaxInt: api.ErrForm, math.MinInt: api.ErrForm} {
		if err := parse.CheckExpr(num(n)); err != want {
			t.Errorf("CheckExpr of %d = %d", n, err)
		}
	}
	for n := -3; n < 25; n++ {
		two := api.Node{Op: api.EBin, N: n, L: []api.Node{num(1), num(1)}}
		if err := parse.CheckExpr(two); (err == api.OK) != (n >= api.Mul && n <= api.Ge) {
			t.Errorf("CheckExpr(%s) = %d", show(two), err)
		}
		one := api.Node{Op: api.EUn, N: n, L: []api.Node{num(1)}}
		if err := parse.CheckExpr(one); (err == api.OK) != (n == api.Neg || n == api.Not) {
			t.Errorf("CheckExpr(%s) = %d", show(one), err)
		}
	}
	for s, want := range map[string]api.Errno{"": api.OK, "\n\t*\"'": api.OK, strings.Repeat("*", 100): api.OK, strings.Repeat("*", 101): api.ErrForm, "\r": api.ErrForm, "\x7f": api.ErrForm, "é": api.ErrForm} {
		if err := parse.CheckExpr(str(s)); err != want {
			t.Errorf("CheckExpr of %q = %d", s, err)
		}
		if err := parse.Check(api.Section{Name: s}); err != want {
			t.Errorf("Check of the name %q = %d", s, err)
		}
	}
	for s, want := range map[string]api.Errno{"a": api.OK, strings.Repeat("a", 24): api.OK, strings.Repeat("a", 25): api.ErrForm, "": api.ErrForm, "if": api.ErrForm, "or": api.ErrForm, "A": api.ErrForm, "1a": api.ErrForm, "a ": api.ErrForm} {
		if err := parse.CheckExpr(name(s)); err != want {
			t.Errorf("CheckExpr of %q = %d", s, err)
		}
	}
	for _, n := range []api.Node{
		{Op: api.CFor, S: "i", N: -1, L: []api.Node{num(1), num(1), node(api.CNull)}}, {Op: api.CFor, S: "i", N: 2, L: []api.Node{num(1), num(1), num(1), node(api.CNull)}}, {Op: api.CFor, S: "i", N: 1, L: []api.Node{num(1), num(1), node(api.CNull)}}, {Op: api.CFor, S: "i", L: []api.Node{num(1), num(1), num(1), node(api.CNull)}},
		{Op: api.CAssign, L: nil}, {Op: api.CAssign, N: 0, L: repeated(num(1), 2)}, {Op: api.CAssign, N: 1, L: repeated(num(1), 3)}, {Op: api.CAssign, N: 2, L: repeated(num(1), 2)}, {Op: api.CAssign, N: -1, L: repeated(num(1), 2)}, {Op: api.CAssign, N: math.MinInt + 1, L: repeated(num(1), 2)}, {Op: api.CAssign, N: 9, L: repeated(num(1), 17)}, {Op: api.CAssign, N: 9, L: repeated(num(1), 16)},
		node(api.CBlock, api.Node{Op: api.CLet}), node(api.CBlock, api.Node{Op: api.CLet, N: 1, L: repeated(name("a"), 3)}), node(api.CBlock, api.Node{Op: api.CLet, N: 2, L: repeated(name("a"), 2)}), node(api.CBlock, api.Node{Op: api.CLet, N: 2, L: []api.Node{name("a"), num(1), num(1), num(1)}}), node(api.CBlock),
	} {
		if err := printError(n); err != api.ErrForm {
			t.Errorf("PrintCommand(%s): %d", show(n), err)
		}
	}
	for _, n := range []api.Node{
		{Op: api.DProc, S: "f"}, {Op: api.DProc, S: "f", N: 2, L: []api.Node{node(api.CNull)}}, {Op: api.DProc, S: "f", N: -1, L: []api.Node{num(1)}}, {Op: api.DProc, S: "f", N: 1, L: []api.Node{num(1)}}, {Op: api.DProc, S: "f", L: []api.Node{node(api.CNull)}}, {Op: api.DProc, S: "f", L: []api.Node{num(1), num(1)}}, {Op: api.DProc, S: "f", L: []api.Node{name("if"), num(1)}},
	} {
		if err := checkOne(n); err != api.ErrForm {
			t.Errorf("Check(%s) = %d", show(n), err)
		}
	}
}

// A tree is valid if it can come from a source: as the scribe writes it, it is read again.
func TestCheckIsWhatASourceGives(t *testing.T) {
	m := newMaker(3)
	valid := 0
	for i := range 5000 {
		n := m.expr(5)
		for range m.Intn(3) {
			n = m.wrong(n)
		}
		src, _ := written(int64(i), n)
		back, err, _ := parse.Expr(src)
		if got := parse.CheckExpr(n); (got == api.OK) != (err == api.OK && parse.SameNode(back, n)) {
			t.Errorf("CheckExpr(%s) = %d; Expr(%q) = %s, %d", show(n), got, src, show(back), err)
		} else if got == api.OK {
			valid++
		}
		n = m.command(5)
		for range m.Intn(3) {
			n = m.wrong(n)
		}
		src, _ = written(int64(i), n)
		back, err, _ = parse.Command(src)
		if got := printError(n); (got == api.OK) != (err == api.OK && parse.SameNode(back, n)) {
			t.Errorf("PrintCommand(%s): %d; Command(%q) = %s, %d", show(n), got, src, show(back), err)
		}
		s := m.section(5)
		for range min(len(s.Decls), m.Intn(3)) {
			at := m.Intn(len(s.Decls))
			s.Decls[at] = m.wrong(s.Decls[at])
		}
		src, _ = writtenSection(int64(i), s)
		whole, err, _ := parse.Parse(src)
		if got := parse.Check(s); (got == api.OK) != (err == api.OK && parse.Same(whole, s)) {
			t.Errorf("Check(%s) = %d; Parse(%q) = %s, %d", showAll(s.Decls), got, src, showAll(whole.Decls), err)
		}
	}
	if valid < 1000 || valid > 4500 {
		t.Errorf("%d of the expressions are valid", valid)
	}
}

// tooMany gives trees with a list of so many things, and how many it may have.
func tooMany() map[string]struct {
	tree func(count int) api.Node
	most int
} {
	type row = struct {
		tree func(count int) api.Node
		most int
	}
	names := func(count int) []api.Node { return repeated(name("a"), count) }
	return map[string]row{
		"arguments":  {func(n int) api.Node { return function(node(api.ECall, names(1+n)...)) }, api.MaxArgs},
		"call":       {func(n int) api.Node { return routine(node(api.CCall, node(api.ECall, names(1+n)...))) }, api.MaxArgs},
		"parameters": {func(n int) api.Node { return api.Node{Op: api.DProc, S: "f", L: names(n + 1)} }, api.MaxArgs},
		"table": {func(n int) api.Node {
			return node(api.DStatic, api.Node{Op: api.DConst, S: "a", L: []api.Node{node(api.ETable, names(n)...)}})
		}, api.MaxString},
		"let":        {func(n int) api.Node { return routine(node(api.CBlock, api.Node{Op: api.CLet, N: n, L: names(2 * n)})) }, api.MaxArgs},
		"assignment": {func(n int) api.Node { return routine(api.Node{Op: api.CAssign, N: n, L: names(2 * n)}) }, api.MaxArgs},
	}
}

func TestCheckOfNumbersOfParts(t *testing.T) {
	for what, x := range tooMany() {
		for count, want := range map[int]api.Errno{1: api.OK, x.most: api.OK, x.most + 1: api.ErrLimit, 10 * x.most: api.ErrLimit} {
			if err := checkOne(x.tree(count)); err != want {
				t.Errorf("Check of %d %s = %d", count, what, err)
			}
		}
	}
	if err := parse.CheckExpr(node(api.ECall, repeated(num(1), 10)...)); err != api.ErrLimit {
		t.Errorf("CheckExpr of 9 arguments = %d", err)
	}
	if err := printError(api.Node{Op: api.CAssign, N: 9, L: repeated(num(1), 18)}); err != api.ErrLimit {
		t.Errorf("PrintCommand of 9 pairs: %d", err)
	}
	// Blocks, manifests and their like, and sections have as many as there may be nodes.
	for _, s := range []api.Section{
		{Decls: []api.Node{routine(node(api.CBlock, repeated(node(api.CNull), api.MaxNodes-2)...))}},
		{Decls: []api.Node{node(api.DManifest), node(api.DStatic, repeated(api.Node{Op: api.DConst, S: "a", L: []api.Node{num(1)}}, api.MaxNodes/2-1)...)}},
		{Decls: repeated(node(api.DGlobal), api.MaxNodes)},
		{Decls: repeated(function(num(1)), api.MaxNodes/2)},
	} {
		if err := parse.Check(s); err != api.OK {
			t.Errorf("Check of %d nodes = %d", parse.Size(s.Decls), err)
		}
		s.Decls = append(s.Decls, node(api.DManifest))
		if err := parse.Check(s); err != api.ErrLimit {
			t.Errorf("Check of %d nodes = %d", parse.Size(s.Decls), err)
		}
	}
}

func TestCheckOfNodesOfOneTree(t *testing.T) {
	block := node(api.CBlock, repeated(node(api.CNull), api.MaxNodes-1)...)
	if err := printError(block); err == api.ErrForm || err == api.ErrDeep {
		t.Errorf("PrintCommand of MaxNodes nodes: %d", err)
	}
	valof := node(api.EValof, node(api.CBlock, repeated(node(api.CNull), api.MaxNodes-2)...))
	if err := parse.CheckExpr(valof); err != api.OK {
		t.Errorf("CheckExpr of MaxNodes nodes = %d", err)
	}
	valof.L[0].L = append(valof.L[0].L, node(api.CNull))
	if err := parse.CheckExpr(valof); err != api.ErrLimit {
		t.Errorf("CheckExpr of more than MaxNodes nodes = %d", err)
	}
}

func TestCheckOfLevels(t *testing.T) {
	if err := parse.CheckExpr(chain(api.EUn, api.Neg, api.MaxNest)); err != api.OK {
		t.Errorf("CheckExpr of MaxNest levels = %d", err)
	}
	for _, levels := range []int{api.MaxNest + 1, 100, 10000} {
		if err := parse.CheckExpr(chain(api.EUn, api.Neg, levels)); err != api.ErrDeep {
			t.Errorf("CheckExpr of %d levels = %d", levels, err)
		}
	}
	if err := printError(node(api.CResult, chain(api.ELoad, 0, api.MaxNest-1))); err != api.OK {
		t.Errorf("PrintCommand of MaxNest levels: %d", err)
	}
	if err := printError(node(api.CResult, chain(api.ELoad, 0, api.MaxNest))); err != api.ErrDeep {
		t.Errorf("PrintCommand of MaxNest + 1 levels: %d", err)
	}
	right := function(chain(api.EAddr, 0, api.MaxNest-1))
	wrong := function(chain(api.EAddr, 0, api.MaxNest))
	if err := parse.Check(api.Section{Decls: []api.Node{right, right, right}}); err != api.OK {
		t.Errorf("Check of MaxNest levels = %d", err)
	}
	for _, l := range [][]api.Node{{wrong}, {wrong, right}, {right, wrong, right}, {right, right, wrong}} {
		if err := parse.Check(api.Section{Decls: l}); err != api.ErrDeep {
			t.Errorf("Check of MaxNest + 1 levels = %d", err)
		}
	}
}

// Each error is looked for in the whole tree before the next one.
func TestWhichErrorComesFirst(t *testing.T) {
	form := routine(num(1))
	deep := function(chain(api.EUn, api.Not, api.MaxNest))
	limit := function(node(api.ECall, repeated(num(1), 10)...))
	nodes := repeated(node(api.DManifest), api.MaxNodes)
	for _, x := range []struct {
		l    []api.Node
		want api.Errno
	}{
		{[]api.Node{deep, limit}, api.ErrLimit}, {[]api.Node{limit, deep}, api.ErrLimit}, {[]api.Node{deep, limit, form}, api.ErrForm}, {[]api.Node{form, limit, deep}, api.ErrForm}, {[]api.Node{deep, form}, api.ErrForm}, {[]api.Node{limit, form}, api.ErrForm},
		{append([]api.Node{deep}, nodes...), api.ErrLimit}, {append(slices.Clone(nodes), form), api.ErrForm}, {append(slices.Clone(nodes), deep), api.ErrLimit},
		{[]api.Node{function(node(api.ESub, chain(api.EUn, api.Not, 50), node(api.ECall, repeated(num(1), 10)...)))}, api.ErrLimit},
		{[]api.Node{function(node(api.ECall, append(repeated(num(1), 9), node(api.ECall))...))}, api.ErrForm},
		{[]api.Node{routine(node(api.CResult, chain(api.EUn, api.Add, 50)))}, api.ErrForm},
	} {
		if err := parse.Check(api.Section{Decls: x.l}); err != x.want {
			t.Errorf("Check of %d declarations = %d; want %d", len(x.l), err, x.want)
		}
		if s, err := parse.Print(api.Section{Decls: x.l}); s != "" || err != x.want {
			t.Errorf("Print of %d declarations: %d bytes, %d; want %d", len(x.l), len(s), err, x.want)
		}
	}
	if err := parse.Check(api.Section{Name: "\x00", Decls: []api.Node{deep, limit}}); err != api.ErrForm {
		t.Errorf("Check of a wrong name = %d", err)
	}
}
