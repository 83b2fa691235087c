package scope_test

import (
	"slices"
	"testing"

	"bluebell/api"
	"bluebell/scope"
)

// P4.4

func checkList(t *testing.T, what, src string, l, want []string) {
	t.Helper()
	if !slices.Equal(l, want) {
		t.Errorf("%s of %q = %v; want %v", what, src, l, want)
	}
}

func TestLocals(t *testing.T) {
	for src, want := range map[string][]string{
		"let f() = 1": nil, "let f() be": nil, "let f(a) = b": {"a"}, "let f(a, b, c) be": {"a", "b", "c"}, "let f(b, a, b) = 1": {"b", "a", "b"},
		"let f() be { let a = 1 ; let b, a = 2, 3 ; let v = vec 3 ; for i = 1 to 2 do for j = 1 to 2 by 3 do { let a = 1 } }":                                                                                   {"a", "b", "a", "v", "i", "j", "a"},
		"let f() = valof { let a = valof { let b = 1 ; resultis b } ; resultis a }":                                                                                                                             {"a", "b"},
		"let f() be { let a, b = valof { let c = 1 }, valof { for d = 1 to 2 do {} } ; let e = vec valof { let g = 1 } }":                                                                                       {"a", "b", "c", "d", "e", "g"},
		"let f() be for i = valof { let a = 1 } to valof { let b = 1 } by valof { let c = 1 } do { let d = 1 }":                                                                                                 {"i", "a", "b", "c", "d"},
		"let f() be { while valof { let a = 1 } do { let b = 1 } ; { let c = 1 } repeatwhile valof { let d = 1 } ; switchon valof { let e = 1 } into { let g = 1 ; case valof { let h = 1 }: { let i = 1 } } }": {"a", "b", "c", "d", "e", "g", "h", "i"},
		"let f() be { l: { let a = 1 } ; goto l ; g(valof { let b = 1 })(valof { let c = 1 }) ; !valof { let d = 1 } := valof { let e = 1 } }":                                                                  {"a", "b", "c", "d", "e"},
		"let f() be { { let a = 1 } ; h(a) ; f := f }": {"a"},
	} {
		checkList(t, "Locals", src, scope.Locals(mustParse(t, src).Decls[0]), want)
	}
}

func TestFree(t *testing.T) {
	for src, want := range map[string][]string{
		"let f() = 1": nil, "let f(a) = a": nil, "let f(a) = b": {"b"}, "let f() = f(a, f)": {"f", "a"}, "let f(f) = f(a)": {"a"}, "let f(a, a) = b + a": {"b"},
		"let f() be { h(b, a) ; h(c) ; a := b }": {"h", "b", "a", "c"}, "let f() be wrch(start)": {"wrch", "start"}, "let f(wrch) be wrch(x)": {"x"},
		// A name is free ahead of its item and behind its block.
		"let f() be { h(a) ; let a = 1 ; h(a) }": {"h", "a"}, "let f() be { { let a = 1 ; let b = a } ; h(b) }": {"h", "b"}, "let f() be { let a = a ; h(a) }": {"a", "h"}, "let f() be { let a, b = b, c ; h(a, b) }": {"b", "c", "h"}, "let f() be { let v = vec v ; let w = vec v + w }": {"v", "w"},
		"let f() be { let a = b ; { let b = c ; b(a) } ; { b(d) } }":                                                        {"b", "c", "d"},
		"let f() be for i = i to j do g(i, j)":                                                                              {"i", "j", "g"},
		"let f() be { for i = a to b by c do { i := d } ; i := e }":                                                         {"a", "b", "c", "d", "i", "e"},
		"let f() be for i = 1 to 2 do for j = i to i by i do g(j)":                                                          {"g"},
		"let f() = g(valof { let a = 1 ; resultis a + b }) + a":                                                             {"g", "b", "a"},
		"let f(a) = valof { let a = a ; resultis valof { resultis a + z } }":                                                {"z"},
		"let f() be { l: goto l ; goto k ; l := k }":                                                                        {"l", "k"},
		"let f() be { let l = 1 ; l: goto l ; k: k(l) }":                                                                    {"k"},
		"let f() be { while a do b() ; c() repeatuntil d ; switchon e into { case g: h() ; let i = j ; default: i := k } }": {"a", "b", "c", "d", "e", "g", "h", "j", "k"},
		"let f() = table(c, b) + (a of d) + slct(e, g, h) + @i + !j + (k -> l, m) + n % o + (~p)":                           {"c", "b", "a", "d", "e", "g", "h", "i", "j", "k", "l", "m", "n", "o", "p"},
		"let f() be a!b, c, !d := e, \"x\", table(g)":                                                                       {"a", "b", "c", "d", "e", "g"},
		"let f() be { let a = 1 ; switchon a into { case 1: a() ; let b = c } ; test b then a() else d() }":                 {"c", "b", "d"},
	} {
		checkList(t, "Free", src, scope.Free(mustParse(t, src).Decls[0]), want)
	}
}

func TestLocalsAndFreeOfWhatIsNoProcedure(t *testing.T) {
	s := mustParse(t, "manifest { a = b } static { c = valof { let d = e } } global { g : h } let f() be { let x = y }")
	nodes := []api.Node{s.Decls[0], s.Decls[1], s.Decls[2], s.Decls[0].L[0], s.Decls[1].L[0].L[0], s.Decls[3].L[0], s.Decls[3].L[0].L[0], name("zz"), {}}
	// Trees that no source gives.
	nodes = append(nodes, api.Node{Op: api.DProc}, api.Node{Op: api.DProc, S: "f"}, api.Node{Op: api.DProc, S: "f", N: 2, L: []api.Node{name("x")}}, api.Node{Op: api.DProc, S: "f", N: -1, L: []api.Node{num(1), name("x")}},
		routine("f", api.Node{Op: api.CLet, N: 5, L: []api.Node{name("x")}}), routine("f", node(api.CBlock, api.Node{Op: api.CVec, S: "v"})), routine("f", api.Node{Op: api.CFor, S: "i"}), routine("f", node(api.CWhile)), routine("f", node(api.CLabel)), routine("f", node(api.CAssign)), routine("f", node(api.CCall, node(api.ECall))))
	for _, n := range nodes {
		if l := scope.Locals(n); len(l) > 0 {
			t.Errorf("Locals of what is no procedure = %v", l)
		}
		if l := scope.Free(n); len(l) > 0 {
			t.Errorf("Free of what is no procedure = %v", l)
		}
	}
}

func TestCalls(t *testing.T) {
	for src, want := range map[string][][2]string{
		"": nil, "let f() = 1": nil, "let f() = f()": {{"f", "f"}}, "manifest { a = 1 } let f() = wrch(f)": nil,
		"let f() be { g() ; h() ; g() ; f() } let g() be h() let h() be { start() ; g(1) ; rdch() } let start() be h()": {{"f", "g"}, {"f", "h"}, {"f", "f"}, {"g", "h"}, {"h", "start"}, {"h", "g"}, {"start", "h"}},
		// A call's node comes before its parts.
		"let f() = g(h(f(1)), g(2)) let h(x) = g(f()) let g() = 1":  {{"f", "g"}, {"f", "h"}, {"f", "f"}, {"h", "g"}, {"h", "f"}},
		"let f() = g(1)(h(2)) let h() = (f)(g()) let g() = (-f)(2)": {{"f", "g"}, {"f", "h"}, {"h", "f"}, {"h", "g"}},
		// What is called has to be the name itself, and to mean the procedure.
		"let f() be { (g + 0)() ; (1 -> g, h)() ; (!g)() ; x := g ; x(g, h) } static { x = 1 } let g() = 1 and h() = 2":                                 nil,
		"let f(g) be { g() ; { let h = 1 ; h() } ; h() } let g() be { let h = h() ; h() } let h() = valof { for g = g() to g() do g() ; resultis g() }": {{"f", "h"}, {"g", "h"}, {"h", "g"}},
		"let f() be for g = 1 to 2 do g() let g() be { let f = vec 1 ; f() }":                                                                           nil,
		// A global that is a procedure is one, others are none.
		"global { g : 20 ; x : 21 } let f() be { x() ; g() ; wrch(1) ; start() } let g() = f()": {{"f", "g"}, {"g", "f"}},
		"let f() = g() let g() = x() global { g : 20 ; x : 21 }":                                {{"f", "g"}},
		// A part that is not taken, and a declaration's expression, which is no procedure's.
		"let f() = true -> 1, g() let g() = 1 manifest { m = true -> 1, f() }": {{"f", "g"}},
		"let f() = table(true -> 1, g()) let g() = 1":                          {{"f", "g"}},
		"let f() be { l: goto l ; f: g: f() } let g() = 1":                     {{"f", "f"}},
	} {
		if l, err := scope.Calls(mustParse(t, src)); !slices.Equal(l, want) || err != api.OK {
			t.Errorf("Calls(%q) = %v, %d; want %v", src, l, err, want)
		}
	}
	for src, want := range map[string]api.Errno{"let f() = f() + zz": api.ErrNone, "let f() be { f() ; break }": api.ErrPlace, "let f() = f() let f() = 1": api.ErrTwice, "let f() = f() global { g : 11 }": api.ErrRange, "let f() = table(f())": api.ErrConst} {
		if l, err := scope.Calls(mustParse(t, src)); l != nil || err != want {
			t.Errorf("Calls(%q) = %v, %d; want %d", src, l, err, want)
		}
	}
}
