package parse_test

import (
	"strings"
	"testing"

	"bluebell/api"
)

// P3.1, errors and their places. In a marked source ^ stands before the place.

func TestErrorsOfScanComeFirst(t *testing.T) {
	for _, p := range []parsing{section, expr, command} {
		p.checkMark(t, "repeat ^A", api.ErrByte)
		p.checkMark(t, ") ^#", api.ErrByte)
		p.checkMark(t, "let ^'*'", api.ErrText)
		p.checkMark(t, "f(((( ^2147483648", api.ErrBig)
		p.checkMark(t, strings.Repeat("(", 161)+" ^"+strings.Repeat("a", 25), api.ErrLimit)
		p.checkError(t, ")"+strings.Repeat(" ", api.MaxSource), api.ErrLimit, 0)
		p.checkError(t, strings.Repeat(";", api.MaxTokens), api.ErrLimit, api.MaxTokens)
	}
}

func TestUnexpectedTokensOfExpressions(t *testing.T) {
	for _, marked := range []string{
		"^", " // \n^", "^)", "(^", "(a^", "(a^,b)", "a ^b", "a^)", "a^;", "a ^:= b", "a^, b", "^if a", "^let", "^vec 3", "^{}", "^or", "a ^or b", "^section", "^/ a", "^xor a", "^-> a", "^= a", "^of a",
		"a = b ^= c", "a < b ^>= c", "a = ^~b", "a << ^~b", "a * ^-b", "a + ^-b", "-^-a", "-^~a", "!^-a", "@^~a", "a!^-b", "a xor ^xor b", "a + ^* b", "a&b|c eqv^", "a +^", "a -^", "a of^", "a rem ^)",
		"!^", "@^)", "~^", "-^", "(!^)", "a -> ^", "a -> b^", "a -> b -> c^", "a -> b -> c, d^", "a -> ^, b", "a -> b, ^", "a -> b, c ^, d", "a -> (b^, c)", "(a -> b^)",
		"f(^", "f(a^", "f(a ^b)", "f(^,a)", "f(a,^)", "f(a^;b)", "f() ^a", "f()^)", "f(^let)", "1 ^2", `"a" ^"b"`, "true ^true", "? ^?", "a ^{}",
		"valof^", "valof ^a", "valof {^", "valof { break ^break }", "valof {^)}", "valof {} ^{}", "table^", "table ^1", "table(^)", "table(1,^)", "table(1^;2)", "table(1^", "slct^", "slct ^1", "slct(^)", "slct(1^)", "slct(1,2^)", "slct(1,2,^)", "slct(1,2,3^,4)", "slct(1,2,3^",
	} {
		expr.checkMark(t, marked, api.ErrToken)
	}
}

func TestUnexpectedTokensOfCommands(t *testing.T) {
	for _, marked := range []string{
		"^)", "^,", "^;", "^}", "^else", "^:", "^:= 1", "^do", "^let a = 1", "^and", "^manifest", "^section", "^of", "f() ^f()", "break ^break", "f()^;", "break^:",
		// No call, and no assignment.
		"a^", "a ^b", "a + 1^", "a + 1 ^}", "a! ^:= 1", "1 ^repeat", "-f()^", "(f)^", "!f()^", "~f() ^}", "f()!1^", "a -> f(), g()^", "valof {}^", "table(1)^", "true^", "f() + 1 ^;", "(f()^, a)",
		// Unlike numbers of an assignment, and of a let.
		"a := 1^, 2", "a, b := 1^", "a, b := 1 ^; c", "a, b, c := 1, 2^", "a, b := 1, 2^, 3", "a, b^", "a, b ^; c", "a, b = 1^", "a, ^:= 1", "^, a := 1", "a := ^", "a := ^, 1", "a := b ^:= c", "f(), g()^", "if x do a := 1^, 2", "a, b := c -> d, e^", "a := b^, c",
		"{ let a = 1^, 2 }", "{ let a, b = 1 ^}", "{ let a, b = 1^; }", "{ let a, b = 1, 2^, 3 }", "{ let ^}", "{ let ^1 = 2 }", "{ let a ^}", "{ let a, ^}", "{ let a, ^= 1 }", "{ let a^; }", "{ let a ^:= 1 }", "{ let a ^b = 1 }", "{ let a = ^}", "{ let a = ^, 1 }",
		"{ let a, b = ^vec 1 }", "{ let a = vec ^}", "{ let a = vec 1^, 2 }", "{ let a = vec 1 ^2 }", "{ let a = 1^, vec 1 }", "{ let a = (^vec 1) }", "{ let ^if = vec 1 }", "{ let f^", "{ let f^() = 1 }", "{ if a do ^let b = 1 }", "{ let a = 1 ^let b = 2 }", "{ let a = 1 ^and b = 2 }",
		// Keys that are missing, or too many.
		"if ^do", "if a ^b()", "if a ^then b()", "if a do ^else", "if a do b() ^else", "unless a^", "while ^", "until a ^to", "test a ^do b()", "test a then b()^", "test a then b() ^; else", "test a then else b() ^else",
		"for ^1", "for a ^:= 1", "for a = ^to", "for a = 1 ^do", "for a = 1 to ^do", "for a = 1 to 2 by ^do", "for a = 1 to 2 ^b()", "for a ^to 2 do", "for a = 1 ^by 2 to 3 do", "for a = 1^, 2 to 3 do",
		"switchon ^into {}", "switchon a ^{}", "switchon a into ^b()", "switchon a into^", "case ^:", "case 1^", "case 1 ^b()", "case 1^, 2:", "default^", "default ^b()", "goto^", "goto ^1", "goto ^if", "goto a^:", "resultis^", "resultis ^}", "resultis 1^, 2", "l ^", "l: ^:", "1^: b()", "(l)^: b()", "f()^:",
		// The forms of repeat need a basic.
		"^repeat", "^repeatwhile a", "{ ^repeatuntil a }", "if a do ^repeat", "l: ^repeat", "f()^; repeat", "{ f(); ^repeat }", "f() repeatwhile^", "f() repeatwhile ^repeat", "f() repeatuntil ^do", "f() repeat ^a", "test a then ^repeat else", "case 1: ^repeat", "default: ^repeat", "for a = 1 to 2 do ^repeat", "{ let v = vec 1 ^repeat }", "{ let a = 1 ^repeat }", "switchon a into {} ^repeat",
		// Blocks.
		"{^", "{ f()^", "{ f();^", "{ f() ^g() }", "{^,}", "{^)", "{} ^}", "{}^;", "{ {^", "{ l: ^else }", "{^:}",
	} {
		command.checkMark(t, marked, api.ErrToken)
	}
}

func TestUnexpectedTokensOfSections(t *testing.T) {
	for _, marked := range []string{
		"^x", "^;", "^{}", "^and f() = 1", "^be", "section^", "section ^a", "section ^let", `section "a" ^"b"`, `section "a" ^section "b"`, `let f() = 1 ^section "a"`, `section "a"^;`,
		"manifest^", "manifest ^a = 1", "manifest {^", "manifest { a ^}", "manifest { a ^1 }", "manifest { a ^: 1 }", "manifest { a = ^}", "manifest { a = 1^", "manifest { a = 1 ^b = 2 }", "manifest { a = 1^, b = 2 }", "manifest { a = 1; ^}", "manifest {^;}", "manifest { ^1 = 2 }", "manifest { ^if = 2 }", "manifest {} ^and f() = 1", "manifest {}^;",
		"static ^= 1", "static { a ^: 1 }", "static { a ^:= 1 }", "static { a = ^vec 3 }", "global { a ^20 }", "global { a ^= 20 }", "global { a : 20 ^: 21 }", "global { a : ^}", "global { a : 20; ^}", "global^",
		"let^", "let ^1", "let ^()", "let ^if() = 1", "let f^", "let f ^= 1", "let f(^", "let f(^,a) = 1", "let f(a^", "let f(a ^b) = 1", "let f(a,^) = 1", "let f(^1) = 1", "let f(a,^if) = 1", "let f(a^; b) = 1", "let f()^", "let f() ^: 1", "let f() ^:= 1", "let f() ^1", "let f() =^", "let f() = ^be", "let f() = ^let g() = 1", "let f() = ^if a do",
		"let f() = 1 ^;", "let f() = 1 ^be", "let f() be ^= 1", "let f() be ^)", "let f() be a() ^b()", "let f() be a()^;", "let f() be^, g()", "let f() be a + 1^", "let f() be a + 1 ^let g() = 1", "let f() be a := 1^, 2", "let f() be a, b := 1 ^let g() = 1",
		"let f() = 1 and ^let g() = 2", "let f() = 1 and ^", "let f() = 1 let ^and g() = 1", "let f() = 1 manifest {} ^and g() = 1", "let f() = 1 and g^", "let f() be { let g^() = 1 }", "let f() be if a do ^else", "let f() be { if a do ^let b = 1 }", "let f() be { ^repeat }", "let f() be ^repeat",
	} {
		section.checkMark(t, marked, api.ErrToken)
	}
}

func TestTheGivenErrors(t *testing.T) {
	section.checkMark(t, "let f() = a = b ^= c", api.ErrToken)
	section.checkMark(t, "let f(a,b,c,d,e,f,g,h,^i) be a()", api.ErrLimit)
	section.checkMark(t, "let f() = "+strings.Repeat("(", 160)+"^(1", api.ErrDeep)
	section.checkMark(t, "^let f() = "+strings.Repeat("-(", 40)+"1"+strings.Repeat(")", 40), api.ErrDeep)
}

// A list is a place at which only so many things may be: those before it, one of them, and what is behind it.
type list struct {
	parsing
	before, one, behind string
	most                int
}

func lists() []list {
	return []list{
		{section, "let f(", "a", ") = 1", api.MaxArgs},
		{section, "let f() = 1 and g(", "a", ") be", api.MaxArgs},
		{expr, "f(", "a", ")", api.MaxArgs},
		{expr, "f()(", "1 -> 2, 3", ")", api.MaxArgs},
		{expr, "f(1)(", "(1)", ")", api.MaxArgs},
		{expr, "1 + table(", "-1", ")", api.MaxString},
		{expr, "table(", "(((1)))", ")", api.MaxString},
		{command, "f(", "~a", ")", api.MaxArgs},
		{command, "{ let ", "a", " = 1, 2, 3, 4, 5, 6, 7, 8 }", api.MaxArgs},
		{command, "l: ", "(a)", " := 1, 2, 3, 4, 5, 6, 7, 8", api.MaxArgs},
		{command, "", "a ! 1", " := 1, 2, 3, 4, 5, 6, 7, 8", api.MaxArgs},
	}
}

func TestTheNumbersOfLists(t *testing.T) {
	for _, x := range lists() {
		full := x.before + strings.Repeat(x.one+", ", x.most-1) + x.one
		if _, err, at := x.parse(full + x.behind); err != api.OK {
			t.Errorf("%s(%.60q): %d at %d", x.name, full, err, at)
		}
		x.checkMark(t, full+", ^"+x.one+x.behind, api.ErrLimit)
		x.checkMark(t, full+", ^"+x.one, api.ErrLimit)
		x.checkMark(t, full+", ^"+x.one+" "+x.one, api.ErrLimit) // from the left
		x.checkMark(t, full+", ^"+x.one+", "+x.one+x.behind, api.ErrLimit)
		x.checkMark(t, full+", ^"+x.one+strings.Repeat("(", 161), api.ErrLimit)
		// What is no such thing is unexpected first.
		x.checkMark(t, full+", ^", api.ErrToken)
		x.checkMark(t, full+", ^)"+x.behind, api.ErrToken)
		x.checkMark(t, full+", ^if"+x.behind, api.ErrToken)
		x.checkMark(t, full+", ^, "+x.one, api.ErrToken)
	}
}

func TestTheFirstErrorOfLists(t *testing.T) {
	// Within the one too many nothing is looked at.
	expr.checkMark(t, "f(1,2,3,4,5,6,7,8, ^(", api.ErrLimit)
	expr.checkMark(t, "f(1,2,3,4,5,6,7,8, ^- -1)", api.ErrLimit)
	expr.checkMark(t, "f(1,2,3,4,5,6,7,8, ^table)", api.ErrLimit)
	expr.checkMark(t, "f(1,2,3,4,5,6,7,8, ^f(1,2,3,4,5,6,7,8,9))", api.ErrLimit)
	section.checkMark(t, "let f(a,b,c,d,e,f,g,h,^1) = 1", api.ErrToken)
	command.checkMark(t, "{ let a,b,c,d,e,f,g,h,^true = 1 }", api.ErrToken)
	command.checkMark(t, "a,b,c,d,e,f,g,h,^{} := 1", api.ErrToken)
	// What is before it, is.
	expr.checkMark(t, "f(1,2,3,4,5,6,7 ^7,8,9)", api.ErrToken)
	expr.checkMark(t, "f(f(1,2,3,4,5,6,7,8,^9),2,3,4,5,6,7,8,9)", api.ErrLimit)
	// Eight pairs are the most: a comma behind the last right is no ninth pair.
	command.checkMark(t, "a,b,c,d,e,f,g,h := 1,2,3,4,5,6,7,8^,9", api.ErrToken)
	command.checkMark(t, "{ let a,b,c,d,e,f,g,h = 1,2,3,4,5,6,7,8^,9 }", api.ErrToken)
}

// An opener opens so many things within each other. At its byte last stands the one that is too many, where one less might be open.
type opener struct {
	text, closer string
	count, last  int
}

func openers() []opener {
	return []opener{
		{"(", ")", 1, 0}, {"f(", ")", 1, 1}, {"f(1,", ")", 1, 1}, {"f() (", ")", 1, 1}, {"table(", ")", 1, 5}, {"slct(", ",1,1)", 1, 4}, {"slct(1,1,", ")", 1, 4},
		{"a -> ", ", 1", 1, 2}, {"a -> 1, ", "", 1, 2}, {"!(", ")", 2, 1}, {"@(", ")", 2, 1}, {"(~", ")", 2, 1},
		{"valof { resultis ", "}", 1, 6}, {"valof { a := 1; if b do c, d := 1, ", "}", 1, 6}, {"valof { { let a = ", "} }", 2, 8}, {"valof { f(", ") }", 2, 9}, {"valof { while ", "do }", 1, 6}, {"valof { switchon a into { case ", ": } }", 2, 24},
	}
}

func TestThingsWithinEachOther(t *testing.T) {
	for _, o := range openers() {
		rest := 4*api.MaxNest - 2*o.count
		for _, x := range []struct{ before, behind string }{
			{o.text + o.text + strings.Repeat("(", rest), strings.Repeat(")", rest) + o.closer + o.closer},
			{strings.Repeat("(", rest) + o.text + o.text, o.closer + o.closer + strings.Repeat(")", rest)},
			{strings.Repeat("(", 100) + o.text + strings.Repeat("(", rest-100) + o.text, o.closer + strings.Repeat(")", rest-100) + o.closer + strings.Repeat(")", 100)},
		} {
			for _, inner := range []string{"1", "a!1", "a + 1"} {
				if _, err, at := expr.parse(x.before + inner + x.behind); err != api.OK {
					t.Errorf("Expr(%q): %d at %d", x.before+inner, err, at)
				}
			}
			for _, inner := range []string{"^(1)", "^!1", "^@1", "f^(1)", "valof ^{}", "table^(1)", "slct^(1,1,1)", "1 + ^(1)", "1 + ^!1"} {
				expr.checkMark(t, x.before+inner+x.behind, api.ErrDeep)
			}
		}
		open := strings.Repeat("(", 4*api.MaxNest-o.count+1)
		expr.checkMark(t, open+o.text[:o.last]+"^"+o.text[o.last:]+"1"+o.closer, api.ErrDeep)
	}
	open := strings.Repeat("(", 4*api.MaxNest)
	expr.checkMark(t, open+"^~1", api.ErrDeep)
	expr.checkMark(t, open+"1 ^-> 1, 1", api.ErrDeep)
	// Prefixes are open until their part is read, and so are conditionals.
	expr.checkMark(t, strings.Repeat("!@", 80)+"^!a", api.ErrDeep)
	expr.checkMark(t, strings.Repeat("!@", 80)+"a^(1)", api.ErrDeep)
	expr.checkMark(t, strings.Repeat("~", 160)+"a!^!b", api.ErrDeep)
	expr.checkMark(t, "^"+strings.Repeat("!@", 80)+"a!(b)", api.ErrDeep) // the levels
	expr.checkMark(t, strings.Repeat("a -> 1, ", 160)+"a ^-> 1, 1", api.ErrDeep)
	expr.checkMark(t, strings.Repeat("a -> ", 160)+"a ^-> 1, 1", api.ErrDeep)
	expr.checkMark(t, "^"+strings.Repeat("a -> ", 160)+"a"+strings.Repeat(", 1", 160), api.ErrDeep)
}

func TestThingsThatAreClosed(t *testing.T) {
	most := strings.Repeat("(", 4*api.MaxNest-2) // with that of the table, one more is taken
	ends := strings.Repeat(")", 4*api.MaxNest-2)
	for _, one := range []string{"(1)", "f(1)", "!a", "@a", "~a", "a -> b, c", "valof {}", "table(1)", "slct(1,2,3)", "-(1)"} {
		src := most + "table(" + strings.Repeat(one+", ", 99) + one + ")" + ends
		if _, err, at := expr.parse(src); err != api.OK {
			t.Errorf("Expr(%.200q): %d at %d", src, err, at)
		}
	}
	// A prefix is open while its part is read, and no longer.
	if _, err, at := expr.parse(most + "(!a + @b - !c * f(d))" + ends); err != api.OK {
		t.Errorf("Expr: %d at %d", err, at)
	}
	expr.checkMark(t, most+"(!a + @b - !^(c) * f(d))"+ends, api.ErrDeep)
}

func TestThingsThatDoNotCount(t *testing.T) {
	most := strings.Repeat("(", 4*api.MaxNest)
	ends := strings.Repeat(")", 4*api.MaxNest)
	for _, src := range []string{"manifest { a = " + most + "1" + ends + " }", "global { a : " + most + "1" + ends + " }", "let f(a, b) = " + most + "1" + ends} {
		if _, err, at := section.parse(src); err != api.OK {
			t.Errorf("Parse(%.60q): %d at %d", src, err, at)
		}
	}
	section.checkMark(t, "static { a = "+most+"^(1"+ends+") }", api.ErrDeep)
	section.checkMark(t, "let f() be "+strings.Repeat("{", 160)+"^{", api.ErrDeep)
	section.checkMark(t, "^let f() be "+strings.Repeat("{", 160)+strings.Repeat("}", 160), api.ErrDeep)
	command.checkMark(t, "^"+strings.Repeat("if a do ", 200), api.ErrDeep)
	command.checkMark(t, strings.Repeat("if a do switchon b into { l: ", 160)+"if a do switchon b into ^{", api.ErrDeep)
	// A token that is not taken is unexpected first.
	expr.checkMark(t, most+"table ^{", api.ErrToken)
	expr.checkMark(t, most+"^{", api.ErrToken)
	expr.checkMark(t, most+"valof ^(", api.ErrToken)
	expr.checkMark(t, most+"table^(1)", api.ErrDeep)
}

func minus(count int) string {
	return strings.Repeat("-(", count) + "1" + strings.Repeat(")", count)
}

func blocks(count int) string {
	return strings.Repeat("{", count) + strings.Repeat("}", count)
}

func TestLevelsOfTrees(t *testing.T) {
	// Of an expression, a command and a declaration: as many levels as may be, and one more.
	for _, x := range []struct {
		parsing
		source func(count int) string
		most   int
	}{
		{expr, minus, api.MaxNest - 1},
		{expr, func(n int) string { return " " + strings.Repeat("a + ", n) + "a" }, api.MaxNest - 1},
		{expr, func(n int) string { return strings.Repeat("a -> b, ", n) + "a" }, api.MaxNest - 1},
		{expr, func(n int) string { return strings.Repeat("!", n) + "a" }, api.MaxNest - 1},
		{expr, func(n int) string { return "f" + strings.Repeat("()", n) }, api.MaxNest - 1},
		{expr, func(n int) string { return "valof " + blocks(n) }, api.MaxNest - 2},
		{command, blocks, api.MaxNest - 1},
		{command, func(n int) string { return "\n" + strings.Repeat("l: ", n) }, api.MaxNest - 1},
		{command, func(n int) string { return "f()" + strings.Repeat(" repeat", n) }, api.MaxNest - 3},
		{command, func(n int) string { return "a := " + minus(n) }, api.MaxNest - 2},
		{section, func(n int) string { return "let f() = " + minus(n) }, api.MaxNest - 2},
		{section, func(n int) string { return "let f(a) be " + blocks(n) }, api.MaxNest - 2},
		{section, func(n int) string { return "let f() be " + strings.Repeat("if a do ", n) }, api.MaxNest - 2},
		{section, func(n int) string { return "manifest { a = 1; b = " + minus(n) + " }" }, api.MaxNest - 3},
		{section, func(n int) string { return "global { a : " + minus(n) + " }" }, api.MaxNest - 3},
	} {
		if _, err, at := x.parse(x.source(x.most)); err != api.OK {
			t.Errorf("%s(%q): %d at %d", x.name, x.source(x.most), err, at)
		}
		x.checkError(t, x.source(x.most+1), api.ErrDeep, 0)
		x.checkError(t, x.source(100), api.ErrDeep, 0)
	}
}

func TestTheDeclarationThatIsTooDeep(t *testing.T) {
	deep := minus(api.MaxNest)
	for _, marked := range []string{
		"\n ^let f() = " + deep, "section \"s\" ^let f() = " + deep, "let f() = 1 ^let g() = " + deep, "let f() = 1\n^and g() be a := " + deep + " and h() = 1", "manifest {} ^static { a = 1 ; b = " + deep + " } let f() = 1", "^let f() = " + deep + " let g() = " + deep, "^let f() be { a := " + deep + " ; b() }",
		// Errors behind the declaration are not come to.
		"^let f() = " + deep + " )", "^let f() = " + deep + " let 1", "^let f() = " + deep + " ;", "^let f() be a := " + deep + " }", "^manifest { a = " + deep + " } ;", "^let f() = " + deep + " let g(a,b,c,d,e,f,g,h,i) = 1", "^let f() = " + deep + " let g() = " + strings.Repeat("(", 161), "^let f() be if " + deep + " do )",
	} {
		section.checkMark(t, marked, api.ErrDeep)
	}
	// Errors within the declaration are told first, and those ahead of it.
	section.checkMark(t, "let f() = "+deep+" +^", api.ErrToken)
	section.checkMark(t, "let f() = ("+deep+" ^;", api.ErrToken)
	section.checkMark(t, "let f() be a := "+deep+"^, 1", api.ErrToken)
	section.checkMark(t, "let f() be a, b := "+deep+"^", api.ErrToken)
	section.checkMark(t, "let f() be if a do if "+deep+" do ^repeat", api.ErrToken)
	section.checkMark(t, "let f() be { a := "+deep+" ; f(1,2,3,4,5,6,7,8,^9) }", api.ErrLimit)
	section.checkMark(t, "manifest { a = "+deep+" ^", api.ErrToken)
	section.checkMark(t, "let f() = "+deep+" + "+strings.Repeat("(", 160)+"^(", api.ErrDeep)
	section.checkMark(t, "let f() ^: let g() = "+deep, api.ErrToken)
	// So it is for expressions and commands, at 0.
	expr.checkError(t, " "+deep+" )", api.ErrDeep, 0)
	expr.checkMark(t, deep+" + ^", api.ErrToken)
	command.checkError(t, " a := "+deep+" )", api.ErrDeep, 0)
	command.checkMark(t, "a := "+deep+"^, 1", api.ErrToken)
}
