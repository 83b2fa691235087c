package scope_test

import (
	"fmt"
	"strings"
	"testing"

	"bluebell/api"
	"bluebell/scope"
)

// P4.1, rules 2 to 6. Sources of inProc stand in a procedure f(p, q); m is a manifest, s a static, g a global, gp a global that is a procedure, h a procedure and late a manifest behind f.

func TestNamesThatMeanSomething(t *testing.T) {
	checkFine(t, inProc(
		"f(p, q)", "h(m + s + g + late)", "gp()", "start()", "wrch(rdch())", "h(f = gp)",
		"let a = 1 ; h(a)", "{ let a = 1 } ; let a = 2 ; h(a)", "let a, b = 1, 2 ; { let c = a ; h(b + c) } ; h(a)", "let v = vec 3 ; v ! 0 := v", "let a = 1 ; let a = a ; h(a)", "let v = vec 1 ; let v = v ! 0 ; h(v)",
		"for i = 1 to 2 do h(i)", "for i = p to q by 2 do for j = i to i do h(i + j)", "for i = 1 to 2 do { let a = i ; h(a + i) } ", "let i = 1 ; for i = i to i do h(i) ; h(i)",
		"let a = 1 ; l: ; switchon a into { case 1: h(a) ; let b = a ; default: h(b) }", "let a = valof { let a = 1 ; resultis a } ; h(a)", "let a = 1 ; h(valof { let b = a ; resultis a + b })",
	)...)
}

func TestNamesThatMeanNothing(t *testing.T) {
	checkMarks(t, api.ErrNone, inProc(
		"^zz()", "h(^zz)", "h(1 + (-^zz))", "h(true -> 1, ^zz)", "^zz := 1", "p := ^zz", "p ! ^zz := 1", "!^zz := 1", "^zz % 1 := 2", "9 of ^zz := 1", "h(@^zz)", "h(@!^zz)", "h(@(p ! ^zz))",
		"if ^zz do f()", "unless ^zz do f()", "while ^zz do f()", "until ^zz do f()", "test ^zz then f() else f()", "f() repeatwhile ^zz", "f() repeatuntil ^zz", "^zz() repeat", "switchon ^zz into {}", "switchon 1 into { case 1: ^zz() }",
		"for i = ^zz to 2 do f()", "for i = 1 to ^zz do f()", "for i = 1 to 2 by 3 do ^zz()", "let a = ^zz", "let a, b = 1, ^zz", "h(valof { resultis ^zz })", "l: ^zz()", "^f1()", "f(^m1)", "^f_()",
		// Names that are not known there: ahead of their item, in it, and behind their block.
		"h(^a) ; let a = 1", "let a = ^a", "let a, b = 1, ^a", "let a = valof { resultis ^a }", "let v = vec 1 + ^v", "let v = vec ^v", "h(^v) ; let v = vec 1", "{ let a = 1 } ; h(^a)", "{ let v = vec 1 } ; h(^v)", "{ h(^a) } ; let a = 1", "h(valof { let a = 1 ; resultis a } + ^a)", "l: { let a = 1 ; goto l } ; h(^a)",
		"for i = ^i to 2 do f()", "for i = 1 to ^i do f()", "for i = 1 to 2 by ^i do f()", "for i = 1 to 2 do f() ; h(^i)", "for i = 1 to 2 do f() ; for j = ^i to 1 do f()",
		"switchon 1 into { case 1: { let a = 1 } ; case 2: h(^a) }", "switchon 1 into { let a = 1 ; case 1: h(a) } ; h(^a)",
	)...)
	checkMarks(t, api.ErrNone, "let f(a) = 1 let g() = ^a", "let f() be { let a = 1 } let g() = ^a", "let f() = ^a let g(a) = 1", "let f(a) = f(valof { let b = 1 ; resultis a } + ^b)", "let f() = ^x manifest { y = 1 }", "let f() = ^l and g() be { l: }")
	// Labels are no names of values.
	checkMarks(t, api.ErrNone, "let f() be { l: f(^l) }", "let f() be { ^l := 1 ; l: }")
}

func TestLabelsThatAreThere(t *testing.T) {
	checkFine(t, inProc(
		"l: goto l", "goto l ; l:", "l: ; goto l", "goto l ; f() ; l: f()", "{ goto l } ; l:", "if 1 do goto l ; l:", "while 1 do { if 2 do { goto l } } ; l:", "l: k: goto l ; goto k", "{ l: goto l } ; l: goto l", "{ { l: goto l } ; goto l } ; l:",
		"switchon 1 into { case 1: goto l ; case 2: l: goto l ; default: k: ; goto k }", "switchon 1 into { case 1: case 2: default: l: k: ; goto k }", "switchon 1 into { l: case 1: k: goto l ; case 2: goto k }", "goto l ; l: switchon 1 into { default: goto l }",
		"h(valof { goto l ; l: resultis 1 })", "h(valof { l: { goto l } ; resultis 1 }) ; l: goto l", "for i = 1 to 2 do { goto l ; l: }", "p: goto p ; m: goto m ; wrch: goto wrch ; let l = 1 ; l: goto l", "{ goto l } repeat ; l:", "case_: goto case_",
	)...)
}

func TestLabelsThatAreNotThere(t *testing.T) {
	checkMarks(t, api.ErrNone, inProc(
		"^goto l", "^goto p", "^goto f", "^goto start", "^goto wrch", "let l = 1 ; ^goto l", "l: ^goto k", "{ l: } ; ^goto l", "^goto l ; { l: }", "{ l: } ; { ^goto l }", "if 1 do ^goto l ; { l: f() }", "switchon 1 into { case 1: l: } ; ^goto l", "^goto l ; switchon 1 into { case 1: l: }", "switchon 1 into { case 1: { l: } ; case 2: ^goto l }",
		// Not beyond a valof.
		"l: h(valof { ^goto l })", "l: h(valof { { ^goto l ; k: } })", "let a = valof { l: resultis 1 } ; ^goto l", "l: p := valof { resultis valof { k: ^goto l } }", "h(valof { l: resultis valof { ^goto l } })", "h(valof { l: resultis 1 } + valof { ^goto l })", "while 1 do { l: h(valof { k: if 1 do ^goto l }) }",
	)...)
	checkMarks(t, api.ErrNone, "let start() be ^goto l", "let f() be { l: goto l } let g() be { ^goto l }", "let f() be { ^goto l } let g() be { l: goto l }")
}

func TestLefts(t *testing.T) {
	checkFine(t, inProc(
		"p := 1", "s := 1", "g := 1", "p ! 1 := 2", "p % 1 := 2", "!p := 2", "!1 := 2", "1 ! 2 := 3", "f % 2 := 3", "9 of p := 1", "m of 5 := 1", "p, s, g, !p := 1, 2, 3, 4", "p, p := 1, 2", "f() ! 1 := 2", "!f() := 1", "!m := 1", "m ! f := 1",
		"let a = 1 ; a := 2", "let v = vec 1 ; v := 2", "for i = 1 to 2 do i := 3",
		// A local hides what may not be a left.
		"let m = 1 ; m := 2", "let f = 1 ; f := 2", "let wrch = vec 1 ; wrch := 2", "for gp = 1 to 2 do gp := 3", "for start = 1 to 2 do start := 3",
	)...)
	checkFine(t, "let f(f, wrch) be { f := 1 ; wrch := 2 }", "let f() be g := 1 global { g : 20 }", "let f() be s := 1 static { s = 1 }")
	checkMarks(t, api.ErrKind, inProc(
		"^1 := 2", "^m := 1", "^late := 1", "^f := 1", "^h := 1", "^gp := 1", "^wrch := 1", "^start := 1", "^true := 1", "^false := 1", "^? := 1", `^"x" := 1`, "^f() := 1", "^@p := 1", "^p + 1 := 1", "^-p := 1", "^~p := 1", "^p -> q, s := 1", "^valof { resultis 1 } := 1", "^table(1) := 1", "^slct(1, 1, 1) := 1",
		"p, ^m := 1, 2", "^f, zz := 1, 2", "p := 1 ; ^m := 2", "{ let m = 1 ; m := 2 } ; ^m := 1", "{ let f = 1 ; f := 2 } ; ^f := 1", "for gp = 1 to 2 do gp := 3 ; ^gp := 1", "let a = 1 ; ^a + 1 := 2",
		// A node before its parts, and the lefts before the rights.
		"^f(zz) := 1", "^m + zz := 1", "^@zz := 1", "^table(zz) := 1", "^slct(99, 1, 1) := 1", "^m := zz", "p, ^m := zz, 1",
	)...)
	checkMarks(t, api.ErrKind, "let f() be ^g := 1 let g() = 1 global { g : 20 }", "global { g : 20 } let f() be ^g := 1 let g() = 1", "let f() be ^start := 1 let start() be", "let f() be ^f := 1")
	checkMarks(t, api.ErrNone, inProc("^zz, m := 1, 2", "p ! ^zz, m := 1, 2", "m of ^zz, m := 1, 2", "p, ^zz := yy, 1")...)
}

func TestAddresses(t *testing.T) {
	checkFine(t, inProc(
		"h(@p)", "h(@s)", "h(@g)", "h(@(p ! 1))", "h(@!p)", "h(@(1 ! 2))", "h(@!1)", "h(@(f ! m))", "h(@!@p)", "let a = 1 ; h(@a)", "let v = vec 1 ; h(@v)", "for i = 1 to 2 do h(@i)", "let m = 1 ; h(@m)", "let wrch = 1 ; h(@wrch)", "for f = 1 to 2 do h(@f)", "!@p := 1", "p ! @q := 1",
	)...)
	checkMarks(t, api.ErrKind, inProc(
		"h(@^1)", "h(@^m)", "h(@^late)", "h(@^f)", "h(@^gp)", "h(@^wrch)", "h(@^start)", "h(@^f(zz))", "h(@^@p)", "h(@(^p % 1))", "h(@(^9 of p))", "h(@(^p + 1))", "h(@^\"x\")", "h(@^true)", "h(@^?)", "h(@(^-1))", "h(@(^p -> q, s))", "h(@^valof { resultis 1 })", "h(@^table(1))", "h(@^slct(99, 1, zz))", "{ let m = 1 } ; h(@^m)", "h(@!@^f)",
		"!@^f := zz", "p ! @^f := 1",
	)...)
	checkMarks(t, api.ErrNone, inProc("h(@^zz)", "h(@(^zz ! 1))")...)
	checkMarks(t, api.ErrKind, "let f() = @^f", "let f() = @^g global { g : 20 } let g() = 1", "let f() = @^start")
}

// roots are the places in a procedure where a constant is asked for.
var roots = []string{"h(table(1, %s, 2))", "let v = vec %s", "for i = 1 to 2 by %s do f()", "switchon 1 into { case 3: ; case %s: f() }", "h((%s) of p)", "(%s) of p := 1", "h(slct(1, %s, 2))", "h(slct(%s, 1, 2))", "h(slct(1, 1, %s))"}

func filled(format string, sources ...string) []string {
	var l []string
	for _, src := range sources {
		l = append(l, strings.ReplaceAll(format, "%s", src))
	}
	return inProc(l...)
}

func TestConstantsInProcedures(t *testing.T) {
	for _, root := range roots {
		checkFine(t, filled(root, "4", "m", "-1 + m", "m - 1 -> 4, f()", "true -> 5, late", "false -> 1 / 0, 6", "2 * (m rem 3)", "slct(1, 0, 0) + 3")...)
		checkMarks(t, api.ErrConst, filled(root,
			"^p", "^s", "^g", "^f", "^gp", "^wrch", "^start", "^late", "^?", `^"x"`, "^f(zz)", "^!1", "^m ! 1", "^m % zz", "^@zz", "^table(zz)", "^valof { zz() }", "^5 of 6", "^zz ! 1", "^zz % 1", "^zz(1)",
			"-^p", "m + ^p", "^p + zz", "^p / 0", "m -> ^p, zz", "m - 5 -> zz, ^late", "^p -> zz, zz", "slct(1, ^late, zz)", "slct(99, ^p, zz)", "1 + slct(1, 1, ^s / 0)",
		)...)
		checkMarks(t, api.ErrNone, filled(root, "^zz", "-^zz", "m + ^zz", "^zz + p", "0 / ^zz", "^zz / 0", "^zz -> 1, 2", "true -> ^zz, p", "true -> 4, ^zz", "false -> ^zz, 4", "slct(1, ^zz, p)", "slct(99, 0, ^zz)", "m -> 4, f(^zz)", "m -> 4, ^zz + 1 / 0")...)
		checkMarks(t, api.ErrZero, filled(root, "^1 / 0", "^1 rem 0", "m - ^2 / (m - 5)", "^1 / 0 + zz", "^1 / 0 + p", "^1 / 0 -> zz, 1", "false -> zz, ^1 rem 0", "slct(0, ^m / 0, p)")...)
		checkMarks(t, api.ErrRange, filled(root, "^slct(17, 0, 0)", "1 + ^slct(0, 0, 256)", "-(^slct(0, -1, 0)) / 0", "slct(1, ^slct(9, 9, 0), zz)", "true -> ^slct(17, 0, 0), 1", "true -> 4, ^slct(17, 0, 0)")...)
		// A local hides a manifest, from where it is known.
		for _, hiding := range []string{"let m = 1 ; ", "let m = vec 1 ; ", "let a, m = 1, 2 ; ", "for m = 1 to 2 do ", "{ let m = 1 } ; let m = 2 ; "} {
			checkMarks(t, api.ErrConst, inProc(hiding+"{ "+fmt.Sprintf(root, "^m")+" }", hiding+"{ "+fmt.Sprintf(root, "4 + ^m")+" }", hiding+"{ let b = 1 ; { "+fmt.Sprintf(root, "^m")+" } }")...)
		}
		checkFine(t, inProc("{ let m = 1 } ; "+fmt.Sprintf(root, "m"), "for m = 1 to 2 do f() ; "+fmt.Sprintf(root, "m"), fmt.Sprintf(root, "m")+" ; let m = 1", "h(valof { let m = 1 ; resultis m }) ; { "+fmt.Sprintf(root, "m")+" }", "m: { "+fmt.Sprintf(root, "m")+" }")...)
	}
	checkMarks(t, api.ErrConst, "manifest { m = 1 } let f(m) = table(^m)", "let f(m) = table(^m) manifest { m = 1 }", "let f() = table(^m) manifest { m = 1 } let g() = table(m)")
	checkFine(t, "manifest { m = 1 } manifest { n = m } let f() = table(m, n)", "let f() = m manifest { m = 1 } let g() = table(m)", "manifest { m = 1 } let f(m) = m let g() = table(m)")
}

func TestPlacesOfConstantsHideNothing(t *testing.T) {
	// A CFor's name is not known in its own by, a CLet's not in its own item, a CVec's not in its size.
	checkFine(t, inProc("for m = 1 to 2 by m do f()", "let m = table(m)", "let m = vec m", "let a, m = table(m), table(m)")...)
	checkMarks(t, api.ErrConst, inProc("for m = 1 to 2 by m do h(table(^m))", "let m = table(m) ; h(table(^m))", "let m = vec m ; let m = vec ^m")...)
}

func TestRangesOfConstants(t *testing.T) {
	checkFine(t, filled("let v = vec %s", "0", "1", fmt.Sprint(api.MaxVec), fmt.Sprintf("%d + 1 - 1", api.MaxVec), "-1 + 1", "false")...)
	checkMarks(t, api.ErrRange, filled("let v = vec %s", "^-1", "^true", fmt.Sprintf("^%d", api.MaxVec+1), fmt.Sprintf("^%d + 1", api.MaxVec), "^0 - 1", "^2147483647", "^1 << 31", "^true -> -1, 2")...)
	checkFine(t, filled("for i = 1 to 2 by %s do f()", "1", "-1", "true", "2147483647", "1 << 31", "1 / 1")...)
	checkMarks(t, api.ErrRange, filled("for i = 1 to 2 by %s do f()", "^0", "^false", "^-0", "^m - 5", "^1 << 32", "^true -> 0, 1", "^1 / 2")...)
	checkFine(t, filled("h((%s) of p)", "0", "16", "slct(16, 0, 255)", "slct(0, 16, 255)", "255 * 1024 + 8 * 32 + 8", "1024 * 255", "16 * 32")...)
	checkMarks(t, api.ErrRange, filled("h((%s) of p)", "^17", "^-1", "^true", "^31", "^16 * 32 + 1", "^17 * 32", "^9 * 32 + 8", "^1024 * 256", "^2147483647", "^1 << 31", "^slct(16, 0, 255) + 1", "^slct(16, 0, 255) + 32", "^1024 * 255 + 31 * 32", "^-1024")...)
	checkMarks(t, api.ErrRange, filled("(%s) of p := zz", "^17", "^-1", "^1024 * 256")...)
	checkFine(t, filled("h(slct(%s))", "16, 0, 0", "0, 16, 0", "0, 0, 255", "8, 8, 255", "m, m, m")...)
	checkMarks(t, api.ErrRange, inProc("h(^slct(17, 0, 0))", "h(^slct(0, 17, 0))", "h(^slct(16, 1, 0))", "h(^slct(-1, 5, 0))", "h(^slct(5, -1, 0))", "h(^slct(0, 0, 256))", "h(^slct(0, 0, -1))", "h(-(^slct(0, 0, -1)))", "h(^slct(m, 12, m -> 1, zz))")...)
	checkFine(t, filled("h(table(%s))", "0, -1, 2147483647, 1 << 31, true, m")...)
	checkFine(t, filled("switchon 1 into { case %s: ; case 1: }", "0", "-1", "1 << 31", "2147483647", "true")...)
}

func TestPlacesOfCommands(t *testing.T) {
	loops := []string{"while 1 do %s", "until 1 do %s", "{ %s } repeat", "{ %s } repeatwhile 1", "{ %s } repeatuntil 1", "for i = 1 to 2 do %s", "for i = 1 to 2 by 3 do %s"}
	for _, loop := range loops {
		for _, command := range []string{"break", "loop"} {
			checkFine(t, filled(loop, command, "if 1 do "+command, "{ f() ; "+command+" }", "switchon 1 into { case 1: "+command+" ; default: { "+command+" } }", "{ l: "+command+" }", "test 1 then "+command+" else "+command, "{ while 1 do f() ; "+command+" }")...)
			checkMarks(t, api.ErrPlace, filled(loop, "h(valof { ^"+command+" })", "{ f() ; p := valof { if 1 do ^"+command+" } }")...)
			checkMarks(t, api.ErrPlace, inProc(strings.ReplaceAll(loop, "%s", "f()")+" ; ^"+command)...)
			checkFine(t, filled(loop, "h(valof { while 1 do "+command+" ; resultis 1 })")...)
		}
		checkMarks(t, api.ErrPlace, filled(loop, "^endcase", "^resultis 1", "if 1 do ^l: f()", "{ ^case 1: }", "{ ^default: }")...)
	}
	for _, command := range []string{"break", "loop"} {
		checkMarks(t, api.ErrPlace, inProc("^"+command, "if 1 do ^"+command, "{ ^"+command+" }", "switchon 1 into { case 1: ^"+command+" }", "l: ^"+command,
			"while valof { ^"+command+" } do f()", "f() repeatwhile valof { ^"+command+" }", "for i = valof { ^"+command+" } to 1 do f()", "h(valof { ^"+command+" })")...)
	}
	checkMarks(t, api.ErrPlace, "let f() be ^break", "let f() be while 1 do f() let g() be ^break", "let f() be ^loop", "let f() be ^endcase", "let f() be ^resultis 1", "let f() be ^l: f()", "let f() be ^case 1: f()", "let f() be ^default: f()", "let f() be while 1 do ^l: f()")
}

func TestPlacesOfEndcase(t *testing.T) {
	checkFine(t, filled("switchon 1 into { case 1: %s ; case 2: f() ; endcase ; default: endcase }", "endcase", "if 1 do endcase", "{ endcase }", "while 1 do endcase", "endcase repeat", "for i = 1 to 2 do { endcase }", "l: endcase", "switchon 2 into { endcase }", "{ switchon 2 into {} ; endcase }", "h(valof { switchon 1 into { case 2: endcase } ; resultis 1 })")...)
	checkMarks(t, api.ErrPlace, inProc("^endcase", "if 1 do ^endcase", "while 1 do ^endcase", "switchon 1 into {} ; ^endcase", "switchon 1 into { case 1: endcase } ; ^endcase", "switchon valof { ^endcase } into {}", "switchon 1 into { case 1: h(valof { ^endcase }) }", "switchon 1 into { default: p := valof { { ^endcase } } }")...)
	checkMarks(t, api.ErrPlace, "let f() be switchon 1 into { case 1: endcase } let g() be ^endcase")
}

func TestPlacesOfResultisAndReturn(t *testing.T) {
	checkFine(t, inProc("return", "if 1 do return", "while 1 do return", "switchon 1 into { case 1: return }", "h(valof { resultis 1 })", "h(valof { if 1 do { while 1 do { resultis 1 } } })", "h(valof { switchon 1 into { case 1: resultis 2 } })", "h(valof { resultis valof { resultis 1 } })", "h(valof { f() } ) ; return", "h(valof { h(valof { resultis 1 }) ; resultis 2 })")...)
	checkMarks(t, api.ErrPlace, inProc("^resultis 1", "if 1 do ^resultis zz", "h(valof { resultis 1 }) ; ^resultis 2", "while 1 do { ^resultis 1 }", "h(valof { ^return })", "h(valof { if 1 do ^return })", "h(valof { while 1 do ^return })", "h(valof { switchon 1 into { case 1: ^return } })", "h(valof { p := valof { resultis 1 } ; ^return })")...)
	checkFine(t, "let f() = valof { resultis 1 }", "let f() be { return ; finish }", "let f() = valof { finish }")
	checkMarks(t, api.ErrPlace, "let f() = valof { ^return }", "let f() = valof { resultis 1 } let g() be ^resultis 1")
}

func TestPlacesOfItems(t *testing.T) {
	checkFine(t, inProc(
		"l: f()", "l: k: f()", "{ l: f() }", "if 1 do { l: f() }", "l: if 1 do f()", "l: { k: f() }", "switchon 1 into { l: f() }", "switchon 1 into { case 1: f() }", "switchon 1 into { default: f() }", "switchon 1 into { case 1: case 2: default: case 3: f() }",
		"switchon 1 into { l: case 1: f() }", "switchon 1 into { case 1: l: f() }", "switchon 1 into { case 1: l: case 2: k: default: j: }", "switchon 1 into { case 1: switchon 2 into { case 1: default: } ; default: }", "switchon 1 into { case 1: { l: } }", "switchon 1 into { let a = 1 ; case 1: f() ; let b = 2 ; case 2: }", "h(valof { l: resultis 1 })",
	)...)
	checkMarks(t, api.ErrPlace, inProc(
		"if 1 do ^l: f()", "unless 1 do ^l:", "test 1 then ^l: else f()", "test 1 then f() else ^l:", "while 1 do ^l: f()", "until 1 do ^l:", "for i = 1 to 2 do ^l:", "l: if 1 do ^k:", "switchon 1 into { case 1: if 1 do ^l: }", "if 1 do ^l: k: f()", "{ if 1 do { l: while 1 do ^k: } }",
		"^case 1: f()", "^default: f()", "{ ^case 1: }", "l: ^case 1: f()", "l: k: ^default: f()", "if 1 do ^case 1:", "^case 1: case 2:", "^case 1 / 0:", "^case zz:",
		"switchon 1 into { if 1 do ^case 1: }", "switchon 1 into { { ^case 1: } }", "switchon 1 into { case 1: { ^default: } }", "switchon 1 into { case 1: while 1 do ^case 2: }", "switchon 1 into { case 1: if 1 do ^default: }", "switchon 1 into { case 1: } ; ^case 2:", "switchon 1 into { default: h(valof { ^case 1: }) }", "switchon 1 into { l: { k: ^default: } }", "switchon valof { ^default: } into {}", "switchon 1 into { switchon 2 into {} ; if 1 do ^default: }",
	)...)
}

func TestParametersAndLetsTwice(t *testing.T) {
	checkMarks(t, api.ErrTwice, "let f(a, ^a) = 1", "let f(a, b, ^a) = 1", "let f(a, b, ^b, a) be", "let f(a, b, c, d, e, g, h, ^a) = zz", "let f(f, ^f) be break", "let g(a) = 1 let f(b, ^b) = 1 let h(a, a) = 1")
	checkMarks(t, api.ErrTwice, inProc("let a, ^a = 1, 2", "let a, b, ^a = 1, 2, 3", "let a, b, ^b, a = 1, 2, 3, 4", "{ let p, ^p = 1, 2 }", "let a = 1 ; let b, ^b = a, a", "let a, ^a = valof { let b, c = 1, 2 ; resultis b }, 2", "let a = valof { let b, ^b = 1, 2 }", "let a, ^a = 1, 2 ; h(zz)")...)
	checkFine(t, inProc("let a = 1 ; let a = 2", "let a, b = 1, 2 ; let b, a = a, b", "let p, q = q, p", "let v = vec 1 ; let v = vec 2", "let a = 1 ; let a = vec 1 ; for a = 1 to 2 do { let a = 3 }", "for p = 1 to 2 do for p = p to p do h(p)", "let a, b = valof { let a, b = 1, 2 ; resultis a }, 1")...)
	// A CLet's expressions come before its names.
	checkMarks(t, api.ErrNone, inProc("let a, a = 1, ^zz", "let a, a = ^a, 2")...)
	checkMarks(t, api.ErrPlace, inProc("let a, a = 1, valof { ^break }")...)
}

func TestLabelsTwice(t *testing.T) {
	checkMarks(t, api.ErrTwice, inProc("l: ; ^l:", "l: ^l:", "l: k: ^l: f()", "l: f() ; k: f() ; ^k: f()", "{ l: ; ^l: }", "h(valof { l: ; ^l: })", "switchon 1 into { case 1: l: ; case 2: ^l: }", "switchon 1 into { l: case 1: ^l: }", "switchon 1 into { default: l: ; ^l: }", "l: goto l ; ^l: goto zz", "l: { l: } ; ^l:", "{ l: } ; l: ; ^l:", "l: h(valof { l: }) ; ^l:")...)
	checkFine(t, inProc("l: { l: }", "{ l: } ; { l: } ; l:", "l: h(valof { l: resultis 1 })", "l: switchon 1 into { l: ; case 1: { l: } }", "l: ; let l = 1 ; k:", "switchon 1 into { case 1: { l: } ; case 2: { l: } }")...)
	// What stands behind the first label comes before the second one.
	checkMarks(t, api.ErrNone, inProc("l: ^goto k ; l:", "l: h(^zz) ; l:")...)
	checkMarks(t, api.ErrPlace, inProc("l: ^break ; l:", "if 1 do ^l: l:")...)
}

func TestCasesTwice(t *testing.T) {
	checkMarks(t, api.ErrTwice, filled("switchon 1 into { %s }",
		"case 1: ; ^case 1:", "case 1: ^case 1:", "case 1: f() ; case 2: f() ; ^case 3 - 1: f()", "case m: ; ^case 5:", "case true: ; ^case -1:", "case 'A': ; ^case 65:", "case 1 << 32: ; ^case false:", "case 1: l: ^case 1:", "l: case 1: ; k: ^case 1:", "case 1: ; default: ^case 1:", "case 1: switchon 2 into { case 2: } ; case 2: ; ^case 2:", "case 1: ; ^case true -> 1, zz:", "case 1: ; ^case 1: zz()", "case m -> 1, s: ; ^case 1:",
		"default: ; ^default:", "default: ^default:", "default: case 1: ^default:", "l: default: ; k: ^default: zz()", "default: switchon 2 into { default: } ; ^default:",
	)...)
	checkMarks(t, api.ErrTwice, inProc("switchon 1 into { case 1: switchon 1 into { case 1: ; ^case 1: } }", "switchon 1 into { case 1: } ; switchon 1 into { case 1: ; ^case 1: }")...)
	checkFine(t, filled("switchon 1 into { %s }", "", "case 1: ; case 2: ; case -1: ; case 0: default:", "case 1: switchon 1 into { case 1: default: } ; default:", "default: ; case 0:", "case 1: f() ; case m: f() ; case -m: f()")...)
	checkFine(t, inProc("switchon 1 into { case 1: default: } ; switchon 1 into { case 1: default: }", "switchon valof { switchon 1 into { case 1: default: } } into { case 1: default: }")...)
	// A constant that is wrong is no constant of a case before, and a place that is wrong is told first.
	checkMarks(t, api.ErrConst, filled("switchon 1 into { %s }", "case ^p: ; case p:", "case 0: ; case ^late: ; case 0:")...)
	checkMarks(t, api.ErrZero, filled("switchon 1 into { %s }", "case 0: ; case ^1 / 0: ; case 0:")...)
	checkMarks(t, api.ErrPlace, filled("switchon 1 into { %s }", "case 1: { ^case 1: }", "default: if 1 do ^default:")...)
	// What stands behind the first case comes before the second one.
	checkMarks(t, api.ErrNone, filled("switchon 1 into { %s }", "case 1: ^zz() ; case 1:", "case 1: ; case 2: ^goto l ; case 1:", "default: ^zz() ; default:")...)
}

// Errors of different kinds: the first node from the left tells, a node before its parts.
func TestOrderOfErrors(t *testing.T) {
	checkMarks(t, api.ErrNone, inProc("^zz() ; break", "h(^zz) ; 1 := 2", "h(1, ^zz, table(zz))", "p := ^zz ; l: ; l:", "for i = ^zz to table(p) by 0 do break", "for i = 1 to ^zz by 0 do f()", "while ^zz do l:", "switchon ^zz into { case p: }", "f() repeatwhile ^zz ; break", "p, q := ^zz, yy", "9 of ^zz := yy", "test 1 then ^zz() else break")...)
	checkMarks(t, api.ErrPlace, inProc("^break ; zz()", "if 1 do ^l: zz()", "^resultis zz", "^case zz: yy()", "{ ^endcase } repeatwhile zz", "test 1 then ^break else zz()")...)
	checkMarks(t, api.ErrConst, inProc("h(table(1, ^p, zz))", "let v = vec ^p + zz", "for i = 1 to 2 by ^p do break", "switchon 1 into { case ^p: break }", "h(^p of zz)", "^s of zz := 1")...)
	checkMarks(t, api.ErrRange, inProc("let v = vec ^-1 ; zz()", "for i = 1 to 2 by ^0 do zz()", "h(^17 of zz)", "h(^slct(17, 1, true -> 1, zz))")...)
	checkMarks(t, api.ErrZero, inProc("let v = vec ^1 / 0 ; zz()", "h(table(1, ^1 / 0, zz))", "let v = vec -(^1 / 0)")...)
	checkMarks(t, api.ErrKind, inProc("^m := zz", "h(@^f, zz)", "^f(zz) := yy")...)
	checkMarks(t, api.ErrTwice, inProc("let a, ^a = 1, 2 ; zz()", "l: ; ^l: zz()")...)
	checkMarks(t, api.ErrNone, "let f() = ^zz let g(a, a) be break", "let f() be f(^zz) manifest { a = 1 }", "manifest { a = 1 } let f() be ^goto l let g() = zz")
}

// P4.1: an error of parse.Check comes first, with -1.
func TestCheckOfTreesThatNoSourceGives(t *testing.T) {
	for _, x := range []struct {
		decls []api.Node
		want  api.Errno
	}{
		{[]api.Node{{}}, api.ErrForm}, {[]api.Node{{Op: api.DProc, S: "f"}}, api.ErrForm}, {[]api.Node{num(1)}, api.ErrForm}, {[]api.Node{routine("f", api.Node{Op: -1})}, api.ErrForm}, {[]api.Node{routine("f", api.Node{Op: api.CGoto})}, api.ErrForm},
		{[]api.Node{routine("f", api.Node{Op: api.CGoto, S: "l"}), routine("if", node(api.CNull))}, api.ErrForm}, {[]api.Node{{Op: api.DProc, S: "f", L: []api.Node{deep(api.MaxNest)}}}, api.ErrDeep},
		{[]api.Node{routine("f", node(api.CCall, node(api.ECall, append([]api.Node{name("zz")}, many(num(1), api.MaxArgs+1)...)...)))}, api.ErrLimit}, {[]api.Node{node(api.DManifest, many(api.Node{Op: api.DConst, S: "a", L: []api.Node{num(1)}}, api.MaxNodes/2)...)}, api.ErrLimit},
	} {
		s := api.Section{Decls: x.decls}
		if err, at := scope.Check(s); err != x.want || at != -1 {
			t.Errorf("Check of no section: %d at %d; want %d", err, at, x.want)
		}
		if err := scope.Whole(s); err != x.want {
			t.Errorf("Whole of no section: %d; want %d", err, x.want)
		}
		if l, err := scope.Tops(s); l != nil || err != x.want {
			t.Errorf("Tops of no section: %v, %d; want %d", l, err, x.want)
		}
		if l, err := scope.Calls(s); l != nil || err != x.want {
			t.Errorf("Calls of no section: %v, %d; want %d", l, err, x.want)
		}
	}
	if err, at := scope.Check(api.Section{Name: "\x00"}); err != api.ErrForm || at != -1 {
		t.Errorf("Check of a name that no section has: %d at %d", err, at)
	}
	if err, at := scope.Check(api.Section{Decls: []api.Node{{Op: api.DProc, S: "f", L: []api.Node{deep(api.MaxNest - 1)}}}}); err != api.OK || at != -1 {
		t.Errorf("Check of %d levels: %d at %d", api.MaxNest, err, at)
	}
	// The place is the node's, whatever it is.
	lost := name("zz")
	lost.At = -77
	if err, at := scope.Check(api.Section{Decls: []api.Node{{Op: api.DProc, S: "f", L: []api.Node{lost}}}}); err != api.ErrNone || at != -77 {
		t.Errorf("Check = %d at %d", err, at)
	}
}

func many(n api.Node, count int) []api.Node {
	var l []api.Node
	for range count {
		l = append(l, n)
	}
	return l
}

func TestWhole(t *testing.T) {
	for src, want := range map[string]api.Errno{
		"let start() be": api.OK, "let start() = 1": api.OK, "let f() = 1 and start() be f() global { f : 20 }": api.OK,
		"": api.ErrStart, "manifest { a = 1 }": api.ErrStart, "let f() be": api.ErrStart, "let start(a) be": api.ErrStart, "let start(a, b) = a let f() = 1": api.ErrStart, "let f(start) be { let start = 1 ; start: f(start) }": api.ErrStart,
		"let f() = zz": api.ErrNone, "let start() be break": api.ErrPlace, "manifest { start = 1 }": api.ErrTwice, "let start(a) = zz": api.ErrNone, "global { g : 1 }": api.ErrRange,
	} {
		if err := scope.Whole(mustParse(t, src)); err != want {
			t.Errorf("Whole(%q) = %d; want %d", src, err, want)
		}
	}
}
