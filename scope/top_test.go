package scope_test

import (
	"fmt"
	"slices"
	"testing"

	"bluebell/api"
	"bluebell/scope"
)

// Names of a section, and P4.1: rule 1. In a marked source ^ stands before the place of the error.

func TestGiven(t *testing.T) {
	want := []string{"start", "rdch", "wrch", "stop", "getvec", "freevec", "muldiv", "createco", "callco", "cowait", "deleteco"}
	l := scope.Given()
	if !slices.Equal(l, want) {
		t.Errorf("Given() = %v", l)
	}
	clear(l)
	if !slices.Equal(scope.Given(), want) {
		t.Errorf("Given() = %v behind a change of its result", scope.Given())
	}
}

func TestNamesThatAreThereOnce(t *testing.T) {
	checkFine(t,
		"", "section \"s\"", "manifest {} static {} global {}",
		"manifest { a = 1 } static { b = 1 } global { c : 20 } let d() = 1 and e() be",
		// One global and one procedure.
		"global { g : 20 } let g() = 1", "let g() = 1 global { g : 20 }", "let g() = 1 static { s = 1 } let f() be and h(x) = x global { f : 20 ; g : 21 } global { h : 22 }",
		"let start() be", "let start(a) = a", "let f() = 1 and start() = f()",
		// Other places have names of their own.
		"manifest { a = 1 } static { b = 1 } let f(a, b, f, g, wrch, start) be { let a = 1 ; let g = vec 1 ; rdch: ; a: ; for b = 1 to 2 do goto a } let g() = 1",
	)
}

func TestNamesTwice(t *testing.T) {
	checkMarks(t, api.ErrTwice,
		"manifest { a = 1 ; ^a = 2 }", "static { a = 1 ; ^a = 2 }", "global { a : 20 ; ^a : 21 }", "global { a : 20 ; ^a : 20 }", "let a() = 1 ^let a() = 1", "let a() = 1 ^and a() be",
		"manifest { a = 1 } manifest { b = 2 ; ^a = 2 }", "manifest { a = 1 } static { ^a = 2 }", "manifest { a = 1 } global { ^a : 20 }", "manifest { a = 1 } ^let a() = 1",
		"static { a = 1 } manifest { ^a = 2 }", "static { a = 1 } global { ^a : 20 }", "static { a = 1 } ^let a() = 1",
		"global { a : 20 } manifest { ^a = 2 }", "global { a : 20 } static { ^a = 20 }",
		"let a() = 1 manifest { ^a = 2 }", "let a() = 1 static { ^a = 20 }",
		// A global that is a procedure is no third one.
		"global { a : 20 } let a() = 1 ^let a() = 2", "global { a : 20 } let a() = 1 global { ^a : 21 }", "global { a : 20 } let a() = 1 static { ^a = 1 }", "global { a : 20 } let a() = 1 manifest { ^a = 1 }",
		"let a() = 1 global { a : 20 } ^let a() = 2", "let a() = 1 global { a : 20 ; ^a : 21 }", "let a() = 1 global { a : 20 } static { ^a = 1 }", "let a() = 1 global { a : 20 } manifest { ^a = 1 }",
		"let a() = 1 ^let a() = 2 global { a : 20 }", "global { a : 20 ; ^a : 21 } let a() = 1",
		"let start() = 1 ^let start() be", "let start() = 1 and f() = 2 ^and start(x) = 1",
		// The first one in the order of the declarations, ahead of everything that is wrong with values and uses.
		"manifest { a = 1 / 0 ; b = zz ; ^a = 1 } let f() = zz and f() = 1", "let f(x, x) = zz let g() be break global { f : 5 ; ^start : 6 }", "let f() = zz ^let f() = 1 manifest { a = zz }",
	)
}

func TestGivenNamesAreNotDeclared(t *testing.T) {
	for _, given := range scope.Given() {
		checkMarks(t, api.ErrTwice, "manifest { ^"+given+" = 1 }", "static { ^"+given+" = 1 }", "global { a : 20 ; ^"+given+" : 30 }", "let start() be and f() = 1 manifest { ^"+given+" = 1 }", "global { ^"+given+" : 20 } let "+given+"() = 1")
		if given != "start" {
			checkMarks(t, api.ErrTwice, "let f() = 1 ^and "+given+"() = 1", "^let "+given+"(a) be")
		}
	}
	checkMarks(t, api.ErrTwice, "let start() be global { ^start : 20 }", "let start() be static { ^start = 20 }")
}

// Expressions that are no right constants, with a mark at the place of the error.

var noConstants = []string{
	"^zz", "^a", "^b", "^s", "^g", "^f", "^late", "^wrch", "^start", `^"x"`, "^?", "^f(zz)", "^wrch(1)", "^m ! 1", "^m % 1", "^!m", "^@s", "^table(1)", "^valof { resultis 1 }", "^9 of m", "^slct(1, 1, 1) of zz",
	"-^zz", "~^s", "-(~(-^zz))", "^zz + 1", "1 + ^zz", "m * (m - ^g)", "^zz + yy", "^zz / 0", "0 / ^zz", "^zz -> 1, 2", "true -> ^zz, 1", "false -> 1, ^zz", "m -> ^zz, 1", "m - 5 -> 1, ^zz", "(true -> ^zz, 1) + 1 / 0",
	"slct(^zz, 1, 1)", "slct(1, ^zz, 1)", "slct(1, 1, ^zz)", "slct(99, ^zz, 1)", "slct(99, 1, -^zz)", "slct(^zz, yy, 1)", "1 + slct(1, 2, 3 + ^f())", "slct(^s, 1 / 0, 1)",
}

var zeroDivisions = []string{
	"^1 / 0", "^1 rem 0", "2 + ^1 / 0", "2 * (3 + ^4 rem (1 - 1))", "(^1 - 1) / (m - m)", "^0 / 1 / 0", "1 / (true -> ^3 / 0, 1)", "-(^1 / 0)", "^1 / 0 + zz", "^1 / 0 -> zz, 1", "^1 / 0 rem 5 / (6 rem 0)", "1 rem 5 / (^6 rem 0)",
	"m = 5 -> ^1 / 0, 1", "m ~= 5 -> 1, ^m / (m - 5)", "slct(^1 / 0, 99, zz)", "slct(99, ^1 / false, 0)", "^5 / (1 << 32)", "^5 rem (65536 * 65536)", "^1 / 0 = 1 / 0", "slct(1, 1, 1) + slct(1, 1, ^m rem 0)",
}

var noSelectors = []string{
	"^slct(17, 0, 0)", "^slct(0, 17, 0)", "^slct(9, 8, 0)", "^slct(8, 9, 255)", "^slct(16, 1, 0)", "^slct(1, 16, 0)", "^slct(16, 16, 0)", "^slct(-1, 0, 0)", "^slct(-1, 5, 0)", "^slct(5, -1, 0)", "^slct(0, 0, -1)", "^slct(0, 0, 256)", "^slct(16, 0, 256)",
	"^slct(2147483647, 2147483647, 2)", "^slct(true, 1, 1)", "1 + ^slct(m + 12, 0, 0)", "^slct(99, 0, 0) + 1 / 0", "slct(1, ^slct(17, 0, 0), zz)", "slct(1 + ^slct(0, 0, 256), 99, 0)", "-(^slct(4, 4, m * 52))", "m -> ^slct(9, 9, 9), 1",
}

// known puts a constant expression into a section in which m is a manifest ahead.
func known(format string, sources []string) []string {
	var l []string
	for _, src := range sources {
		l = append(l, "manifest { m = 5 } static { s = 1 } global { g : 20 } "+fmt.Sprintf(format, src)+" manifest { late = 1 } let f() = 1")
	}
	return l
}

func TestValuesOfDeclarations(t *testing.T) {
	for _, format := range []string{"manifest { a = %s ; b = 1 }", "static { b = 1 ; a = %s }", "global { c : 30 ; a : %s ; b : 31 }"} {
		checkMarks(t, api.ErrConst, known(format, noConstants)...)
		checkMarks(t, api.ErrZero, known(format, zeroDivisions)...)
		checkMarks(t, api.ErrRange, known(format, noSelectors)...)
		checkFine(t, known(format, []string{"m * 6 + 7", "true -> 32, f(g)", "false -> 1 / 0 -> 1, 2, 33", "false -> @s, 34", "slct(16, 0, 0) + 20", "-m + 40", "m = 5 -> 36, late"})...)
	}
	checkFine(t, known("manifest { a = %s }", []string{"slct(16, 0, 255)", "slct(0, 16, 0)", "slct(8, 8, 255)", "slct(0, 0, 0)", "slct(7, 9, m)", "(1 << 31) / true", "2147483647 + 1"})...)
}

func TestNumbersOfGlobals(t *testing.T) {
	for _, format := range []string{"global { g : %s }", "global { a : 30 ; g : %s ; b : 31 }", "let g() = 1 global { g : %s } let f() = zz"} {
		for _, n := range []string{"^11", "^1", "^0", "^-1", "^true", "^12 - 1", "^1 << 31", fmt.Sprintf("^%d", api.GlobalSize), fmt.Sprintf("^%d + 1", api.GlobalSize-1), fmt.Sprintf("^%d", api.GlobalSize+12), "^2147483647"} {
			checkMarks(t, api.ErrRange, fmt.Sprintf(format, n))
		}
	}
	checkFine(t, "global { g : 12 }", fmt.Sprintf("global { g : %d ; h : 12 } let f() = g", api.GlobalSize-1), fmt.Sprintf("global { g : %d - 1 }", api.GlobalSize), "manifest { b = 12 } global { g : b ; h : b + 1 ; i : b + 2 }")
	checkMarks(t, api.ErrTwice,
		"global { g : 20 ; ^h : 20 }", "global { g : 20 ; h : 21 } global { i : 22 ; ^j : 10 + 10 }", "global { g : 20 } let g() = 1 global { ^h : 20 } let h() = 1", "global { g : 20 ; ^h : 20 ; i : 11 }",
	)
	checkMarks(t, api.ErrRange, "global { g : ^11 ; h : 20 ; i : 20 }", "global { g : ^11 ; h : 11 }")
}

func TestOrderOfValuesAndUses(t *testing.T) {
	// Values, declaration by declaration, come ahead of all uses.
	checkMarks(t, api.ErrConst, "let f() = zz manifest { a = ^b }", "let f(x, x) be break static { a = ^f }", "manifest { a = true -> 1, zz ; b = ^zz }", "static { a = ^zz } global { g : 11 }", "manifest { a = ^b } manifest { b = 1 / 0 }")
	checkMarks(t, api.ErrRange, "let f() = zz global { g : ^11 }", "global { g : ^11 } static { a = zz }", "let f() be 1 := 2 manifest { a = ^slct(17, 1, 1) }")
	checkMarks(t, api.ErrTwice, "let f() = zz global { g : 20 ; ^h : 20 }", "global { g : 20 ; ^h : 20 } static { a = zz }")
	checkMarks(t, api.ErrZero, "let f() = zz manifest { a = ^1 / 0 } manifest { c = zz }")
	// Then all declarations are gone through in their order.
	checkMarks(t, api.ErrNone, "manifest { a = true -> 1, ^zz } let f() = yy", "let f() = ^yy manifest { a = true -> 1, zz }", "global { g : false -> ^xx, 20 ; h : 21 } let f() = yy")
}

// What is not taken of a constant expression is examined as any other expression, without locals.
func TestPartsOfDeclarationsThatAreNotTaken(t *testing.T) {
	format := "manifest { a = true -> 1, %s ; b = 1 }"
	checkFine(t, known(format, []string{"a", "b", "late", "f(s, wrch)", `"x"`, "@s + @g", "@(m ! f)", "table(m, 1)", "9 of m", "slct(1, m, 3)", "valof { let x = 1 ; l: x := 2 ; resultis x ; goto l }", "valof { while 1 do break }", "true -> 1, 1 / 0"})...)
	checkMarks(t, api.ErrNone, known(format, []string{"^zz", "f() + ^zz", "slct(^zz, 1, 1)", "table(^zz)", "table(1 + ^zz)", "valof { ^goto l }", "valof { { let x = 1 } ; f(^x) }", "9 of ^zz"})...)
	checkMarks(t, api.ErrKind, known(format, []string{"@^f", "@^m", "@(^1 + 1)", "valof { ^g() := 1 }", "valof { ^a := 1 }", "valof { ^f := 1 }"})...)
	checkMarks(t, api.ErrConst, known(format, []string{"table(^s)", "table(^a)", "table(^b)", "slct(1, ^late, 1)", "^f of 1", "valof { let v = vec ^g }"})...)
	checkMarks(t, api.ErrZero, known(format, []string{"table(^1 / 0)", "(^m / 0) of s"})...)
	checkMarks(t, api.ErrRange, known(format, []string{"^slct(17, 0, 0)", "^17 of s", "valof { for i = 1 to 2 by ^0 do f() }"})...)
	checkMarks(t, api.ErrPlace, known(format, []string{"valof { ^return }", "valof { ^break }", "valof { if 1 do ^l: }"})...)
	checkMarks(t, api.ErrTwice, known(format, []string{"valof { l: ; ^l: }", "valof { let x, ^x = 1, 2 }"})...)
}
