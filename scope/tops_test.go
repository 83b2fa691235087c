package scope_test

import (
	"fmt"
	"slices"
	"testing"

	"bluebell/api"
	"bluebell/scope"
)

// P4.2

func checkTops(t *testing.T, src string, want ...scope.Top) {
	t.Helper()
	if l, err := scope.Tops(mustParse(t, src)); !slices.Equal(l, want) || err != api.OK {
		t.Errorf("Tops(%q) = %v, %d; want %v", src, l, err, want)
	}
}

func TestKinds(t *testing.T) {
	if l := []int{scope.None, scope.Manifest, scope.Static, scope.Global, scope.Proc}; !slices.Equal(l, []int{0, 1, 2, 3, 4}) {
		t.Errorf("kinds are %v", l)
	}
}

func TestTops(t *testing.T) {
	checkTops(t, "")
	checkTops(t, "manifest {} static {} global {}")
	checkTops(t, "manifest { a = 2 ; b = a + 1 }", scope.Top{Name: "a", Kind: scope.Manifest, N: 2}, scope.Top{Name: "b", Kind: scope.Manifest, N: 3})
	checkTops(t, "static { x = 9 ; y = 8 } let f() = 1 static { z = -1 }",
		scope.Top{Name: "x", Kind: scope.Static}, scope.Top{Name: "y", Kind: scope.Static, N: 1}, scope.Top{Name: "f", Kind: scope.Proc, N: 1}, scope.Top{Name: "z", Kind: scope.Static, N: 2})
	checkTops(t, "let f() = 1 and start(a) = 2 and g() = h let g2() be global { g : 30 ; h : 31 } let f2() be global { f2 : 12 }",
		scope.Top{Name: "f", Kind: scope.Proc, N: 1}, scope.Top{Name: "start", Kind: scope.Proc, N: 2, Global: 1}, scope.Top{Name: "g", Kind: scope.Proc, N: 3, Global: 30}, scope.Top{Name: "g2", Kind: scope.Proc, N: 4},
		scope.Top{Name: "g", Kind: scope.Global, N: 30}, scope.Top{Name: "h", Kind: scope.Global, N: 31}, scope.Top{Name: "f2", Kind: scope.Proc, N: 5, Global: 12}, scope.Top{Name: "f2", Kind: scope.Global, N: 12})
	checkTops(t, "global { g : 20 } let g() = 1", scope.Top{Name: "g", Kind: scope.Global, N: 20}, scope.Top{Name: "g", Kind: scope.Proc, N: 1, Global: 20})
}

func TestValuesOfManifests(t *testing.T) {
	for src, want := range constantValues() {
		checkTops(t, "manifest { m = 5 ; n = -3 ; a = "+src+" }", scope.Top{Name: "m", Kind: scope.Manifest, N: 5}, scope.Top{Name: "n", Kind: scope.Manifest, N: -3}, scope.Top{Name: "a", Kind: scope.Manifest, N: want})
	}
}

func TestTopsOfWrongSections(t *testing.T) {
	for src, want := range map[string]api.Errno{
		"manifest { a = 1 ; a = 2 }": api.ErrTwice, "manifest { a = b }": api.ErrConst, "static { a = 1 / 0 }": api.ErrZero, "global { g : 11 }": api.ErrRange, "manifest { a = 1 } let f() = zz": api.ErrNone, "let f() be 1 := 2": api.ErrKind, "let f() be break": api.ErrPlace, "let f(a, a) = 1": api.ErrTwice,
	} {
		if l, err := scope.Tops(mustParse(t, src)); l != nil || err != want {
			t.Errorf("Tops(%q) = %v, %d; want %d", src, l, err, want)
		}
	}
}

func TestFind(t *testing.T) {
	l, _ := scope.Tops(mustParse(t, "manifest { a = 2 } static { s = 1 } global { g : 20 ; h : 30 } let h() = 1 and g() = 2 and f() = 3"))
	for _, x := range []struct {
		list []scope.Top
		name string
		want scope.Top
		ok   bool
	}{
		{l, "a", l[0], true}, {l, "s", l[1], true}, {l, "g", l[2], true}, {l, "h", l[3], true}, {l, "f", l[6], true}, {l, "zz", scope.Top{}, false}, {l, "", scope.Top{}, false}, {nil, "a", scope.Top{}, false},
		// The given one is found where the list has none, whatever the list has.
		{[]scope.Top{{Name: "wrch", Kind: scope.Static, N: 9}}, "wrch", scope.Top{Name: "wrch", Kind: scope.Static, N: 9}, true}, {[]scope.Top{{Name: "start", Kind: scope.Proc, N: 3, Global: 1}}, "start", scope.Top{Name: "start", Kind: scope.Proc, N: 3, Global: 1}, true},
		{[]scope.Top{{Name: "b", Kind: scope.Proc, N: 1}, {Name: "b", Kind: scope.Global, N: 20}, {Name: "b", Kind: scope.Proc, N: 7}}, "b", scope.Top{Name: "b", Kind: scope.Proc, N: 1}, true}, {[]scope.Top{{Name: "b", Kind: -7, N: -1, Global: -2}}, "b", scope.Top{Name: "b", Kind: -7, N: -1, Global: -2}, true},
		{[]scope.Top{{}}, "", scope.Top{}, true},
	} {
		if top, ok := scope.Find(x.list, x.name); top != x.want || ok != x.ok {
			t.Errorf("Find(%v, %q) = %v, %v; want %v, %v", x.list, x.name, top, ok, x.want, x.ok)
		}
	}
	for i, name := range []string{"start", "rdch", "wrch", "stop", "getvec", "freevec", "muldiv", "createco", "callco", "cowait", "deleteco"} {
		for _, list := range [][]scope.Top{nil, l} {
			if top, ok := scope.Find(list, name); top != (scope.Top{Name: name, Kind: scope.Global, N: i + 1}) || !ok {
				t.Errorf("Find(%v, %q) = %v, %v", list, name, top, ok)
			}
		}
	}
}

// P4.3

// constantValues are constant expressions and their values, where m is 5 and n is -3.
func constantValues() map[string]int {
	return map[string]int{
		"0": 0, "7": 7, "true": -1, "false": 0, "m": 5, "n": -3, "'A'": 65, "#ff": 255, "2147483647": 1<<31 - 1,
		"m * n": -15, "m / n": -1, "n / m": 0, "-7 / 2": -3, "m rem n": 2, "n rem 2": -1, "m + n": 2, "m - n": 8, "1 << m": 32, "n >> 28": 15, "n << 1": -6, "1 << 31": -1 << 31, "1 << 32": 0, "m >> -1": 0, "m & n": 5, "m & 4": 4, "m | 8": 13, "m xor 3": 6, "m eqv 3": -7,
		"m = 5": -1, "m = 4": 0, "m ~= 5": 0, "m ~= 4": -1, "n < m": -1, "m < 5": 0, "m <= 5": -1, "m <= 4": 0, "m > n": -1, "m > 5": 0, "m >= 5": -1, "m >= 6": 0, "-m": -5, "-n": 3, "~m": -6, "~0": -1, "~true": 0,
		"2147483647 + 1": -1 << 31, "(1 << 31) - 1": 1<<31 - 1, "65536 * 65536": 0, "65536 * 32768": -1 << 31, "(1 << 31) / true": -1 << 31, "-(1 << 31)": -1 << 31, "(1 << 31) rem true": 0, "100000 * 100000": 1410065408, "m - 1 * 2 - 1": 2, "(m - 1) * (2 - 1)": 4,
		"true -> 1, 2": 1, "false -> 1, 2": 2, "m -> 1, 2": 1, "n -> m, n": 5, "m - 5 -> m, n": -3, "1 << 32 -> 1, 2": 2, "false -> 1 / 0, 2": 2, "true -> false -> 1, 2, 1 / 0": 2, "(m > n -> n, m) * 2": -6,
		"slct(0, 0, 0)": 0, "slct(3, 2, 1)": 3 + 32*2 + 1024, "slct(16, 0, 255)": 16 + 1024*255, "slct(0, 16, 0)": 512, "slct(8, 8, 255)": 8 + 32*8 + 1024*255, "slct(m, m, m)": 5 + 32*5 + 1024*5, "slct(1, -n, m - 1) + 1": 2 + 32*3 + 1024*4,
	}
}

func checkEval(t *testing.T, src string, l []scope.Top, want int, wanted api.Errno) {
	t.Helper()
	if value, err := scope.Eval(mustExpr(t, src), l); value != want || err != wanted {
		t.Errorf("Eval(%q, %v) = %d, %d; want %d, %d", src, l, value, err, want, wanted)
	}
}

func TestEval(t *testing.T) {
	l := []scope.Top{{Name: "n", Kind: scope.Manifest, N: -3}, {Name: "s", Kind: scope.Static, N: 1}, {Name: "f", Kind: scope.Proc, N: 1}, {Name: "m", Kind: scope.Manifest, N: 5}}
	for src, want := range constantValues() {
		checkEval(t, src, l, want, api.OK)
	}
	checkEval(t, "1 + 2", nil, 3, api.OK)
	checkEval(t, "true -> 1, f(zz)", nil, 1, api.OK)
	checkEval(t, "slct(m -> 1, zz, m - 5 -> zz(), 2, 0)", l, 1+32*2, api.OK)
	least := num(-1 << 31)
	if value, err := scope.Eval(least, nil); value != -1<<31 || err != api.OK {
		t.Errorf("Eval(%v) = %d, %d", least, value, err)
	}
}

func TestEvalOfWhatIsNotConstant(t *testing.T) {
	l := []scope.Top{{Name: "m", Kind: scope.Manifest, N: 5}, {Name: "s", Kind: scope.Static, N: 1}, {Name: "g", Kind: scope.Global, N: 20}, {Name: "f", Kind: scope.Proc, N: 1}, {Name: "x", Kind: scope.None, N: 1}, {Name: "y", Kind: 77, N: 1}, {Name: "w", Kind: -1, N: 1}}
	for _, src := range []string{
		"zz", "s", "g", "f", "x", "y", "w", "wrch", "start", `"x"`, "?", "f()", "m ! 1", "m % 1", "!m", "@s", "table(1)", "valof { resultis 1 }", "9 of m", "-s", "~zz", "m + s", "s + 1 / 0", "s / 0", "s -> 1, 2", "true -> s, 1", "false -> 1, s", "slct(s, 1, 1)", "slct(99, s, 1)", "slct(1, 1, zz)", "0 / zz",
	} {
		checkEval(t, src, l, 0, api.ErrConst)
	}
	for _, src := range []string{"1 / 0", "m rem 0", "1 / 0 + s", "m / (m - 5)", "1 / (1 << 32)", "slct(1 / 0, 99, s)", "true -> 1 / 0, 1", "1 / 0 -> s, s", "1 / 0 + slct(99, 0, 0)"} {
		checkEval(t, src, l, 0, api.ErrZero)
	}
	for _, src := range []string{"slct(17, 0, 0)", "slct(0, 17, 0)", "slct(9, 8, 0)", "slct(0, 0, 256)", "slct(-1, 0, 0)", "slct(0, -1, 0)", "slct(0, 0, -1)", "slct(17, 0, 0) + s", "slct(99, 0, 0) / 0", "slct(1, slct(99, 0, 0), s)"} {
		checkEval(t, src, l, 0, api.ErrRange)
	}
	checkEval(t, "m", nil, 0, api.ErrConst)
}

func TestEvalTakesTheFirstManifestOfAName(t *testing.T) {
	checkEval(t, "a", []scope.Top{{Name: "a", Kind: scope.Manifest, N: 1}, {Name: "a", Kind: scope.Manifest, N: 2}}, 1, api.OK)
	checkEval(t, "a + b", []scope.Top{{Name: "a", Kind: scope.Static, N: 1}, {Name: "b", Kind: scope.Manifest, N: 4}, {Name: "a", Kind: scope.Manifest, N: 2}, {Name: "b", Kind: scope.Proc, N: 9}, {Name: "a", Kind: scope.Manifest, N: 3}}, 6, api.OK)
	checkEval(t, "wrch", []scope.Top{{Name: "wrch", Kind: scope.Manifest, N: 8}}, 8, api.OK)
	// By words of 32 bits.
	checkEval(t, "a", []scope.Top{{Name: "a", Kind: scope.Manifest, N: 1 << 31}}, -1<<31, api.OK)
	checkEval(t, "a", []scope.Top{{Name: "a", Kind: scope.Manifest, N: 1<<32 + 7}}, 7, api.OK)
	checkEval(t, "a / 2", []scope.Top{{Name: "a", Kind: scope.Manifest, N: -1<<32 + 7}}, 3, api.OK)
	checkEval(t, "a -> 1, 2", []scope.Top{{Name: "a", Kind: scope.Manifest, N: 1 << 40}}, 2, api.OK)
	checkEval(t, "slct(a, 0, 0)", []scope.Top{{Name: "a", Kind: scope.Manifest, N: 1<<33 + 16}}, 16, api.OK)
	checkEval(t, "1 / a", []scope.Top{{Name: "a", Kind: scope.Manifest, N: 1 << 32}}, 0, api.ErrZero)
}

func TestEvalOfTreesThatNoSourceGives(t *testing.T) {
	for _, x := range []struct {
		n    api.Node
		want api.Errno
	}{
		{api.Node{}, api.ErrForm}, {node(api.CNull), api.ErrForm}, {num(1 << 31), api.ErrForm}, {name("if"), api.ErrForm}, {node(api.EBin, num(1), num(2)), api.ErrForm}, {api.Node{Op: api.EBin, N: api.Div, L: []api.Node{num(1)}}, api.ErrForm}, {api.Node{Op: api.EUn, N: api.Add, L: []api.Node{num(1)}}, api.ErrForm},
		{node(api.ECond, num(1), num(2)), api.ErrForm}, {node(api.ESlct, num(1), num(2), num(3), num(4)), api.ErrForm}, {node(api.ESlct), api.ErrForm}, {deep(api.MaxNest + 1), api.ErrDeep}, {node(api.ETable, many(num(1), api.MaxString+1)...), api.ErrLimit},
	} {
		if value, err := scope.Eval(x.n, nil); value != 0 || err != x.want {
			t.Errorf("Eval of no expression = %d, %d; want %d", value, err, x.want)
		}
	}
	if value, err := scope.Eval(deep(api.MaxNest), nil); value != -1 || err != api.OK {
		t.Errorf("Eval of %d levels = %d, %d", api.MaxNest, value, err)
	}
}

func TestSelector(t *testing.T) {
	for size := range 17 {
		for shift := range 17 {
			for _, offset := range []int{0, 1, 2, 128, 254, 255} {
				n := size + 32*shift + 1024*offset
				a, b, c, err := scope.Selector(n)
				if size+shift > 16 {
					checkNoSelector(t, n)
				} else if a != size || b != shift || c != offset || err != api.OK {
					t.Errorf("Selector(%d) = %d, %d, %d, %d", n, a, b, c, err)
				}
				if value, err := scope.Eval(node(api.ESlct, num(size), num(shift), num(offset)), nil); size+shift <= 16 && (value != n || err != api.OK) {
					t.Errorf("Eval(slct(%d, %d, %d)) = %d, %d", size, shift, offset, value, err)
				}
			}
		}
	}
	for size := 17; size < 32; size++ {
		checkNoSelector(t, size)
		checkNoSelector(t, 32*size)
		checkNoSelector(t, 32*size+1024*255)
	}
	for _, n := range []int{-1, -2, -31, -32, -33, -1023, -1024, -1025, -1 << 31, -1 << 32, -1 << 63, 1024 * 256, 1024*256 + 5, 1 << 31, 1 << 32, 1<<32 + 5, 1<<63 - 1} {
		checkNoSelector(t, n)
	}
}

func checkNoSelector(t *testing.T, n int) {
	t.Helper()
	if size, shift, offset, err := scope.Selector(n); size != 0 || shift != 0 || offset != 0 || err != api.ErrRange {
		t.Errorf("Selector(%d) = %d, %d, %d, %d", n, size, shift, offset, err)
	}
}

// Every number is a selector just if some numbers in their ranges make it.
func TestSelectorOfAnyNumber(t *testing.T) {
	made := map[int]string{}
	for size := range 17 {
		for shift := range 17 - size {
			for offset := range 256 {
				made[size+32*shift+1024*offset] = fmt.Sprint(size, shift, offset)
			}
		}
	}
	for n := -5000; n < 1024*256+5000; n++ {
		size, shift, offset, err := scope.Selector(n)
		if want, ok := made[n]; ok != (err == api.OK) || ok && want != fmt.Sprint(size, shift, offset) {
			t.Fatalf("Selector(%d) = %d, %d, %d, %d", n, size, shift, offset, err)
		}
	}
}
