package trans_test

import "testing"

// P7.1: expressions.

func TestConstants(t *testing.T) {
	checkExprs(t, `
		0                   => num 0
		65                  => num 65
		'A'                 => num 65
		2147483647          => num 2147483647
		#ffffffff           => num -1
		#80000000           => num -2147483648
		true                => num -1
		false               => num 0
		?                   => num 0
		m                   => num 5
		low                 => num -3
		sel                 => num 1091
		slct(3, 2, 1)       => num 1091
		slct(0, 0, 0)       => num 0
		slct(16, 0, 255)    => num 261136
		slct(m, m + 1, low + 3) => num 197
	`)
}

func TestManifestsAreWordsOf32Bits(t *testing.T) {
	checkCode(t, "manifest { a = #7fffffff + 1 ; b = 1 << 31 ; c = 65536 * 32767 ; d = ~ 0 } let f() = a + b + c + d",
		"enter 1 0, num -2147483648, num -2147483648, bin add, num 2147418112, bin add, num -1, bin add, return")
}

// Nothing is computed ahead but what has to be constant.
func TestNothingIsComputedAhead(t *testing.T) {
	checkExprs(t, `
		1 + 2               => num 1, num 2, bin add
		- 1                 => num 1, un neg
		~ true              => num -1, un not
		m + 0               => num 5, num 0, bin add
		1 / 0               => num 1, num 0, bin div
		true -> 1, 2        => num -1, false 1, num 1, jump 2, label 1, stack 4, num 2, label 2, stack 5
	`)
}

func TestNames(t *testing.T) {
	checkExprs(t, `
		a                   => local 2
		b                   => local 3
		s                   => static 0
		t                   => static 1
		gl                  => global 50
		g                   => global 51
		f                   => proc 1
		p                   => proc 3
		start               => global 1
		rdch                => global 2
		wrch                => global 3
		stop                => global 4
		getvec              => global 5
		freevec             => global 6
		muldiv              => global 7
		createco            => global 8
		callco              => global 9
		cowait              => global 10
		deleteco            => global 11
	`)
	// start is a global, also where no procedure has this name.
	checkCode(t, "let f() = start", "enter 1 0, global 1, return")
	// A global may stand before or behind its procedure.
	checkCode(t, "global { g : 199 } let g() = g", "enter 1 0, global 199, return")
	checkCode(t, "let g() = g global { g : 12 }", "enter 1 0, global 12, return")
}

// A name is the innermost one that is known.
func TestNamesThatHideOthers(t *testing.T) {
	for _, name := range []string{"m", "s", "gl", "g", "p", "f", "start", "wrch"} {
		checkCode(t, "manifest { m = 5 } static { s = 7 } global { gl : 50 ; g : 51 } let f(x, "+name+") = "+name+" let p() = 1 let g() = 1",
			"enter 1 2, local 3, return, enter 2 0, num 1, return, enter 3 0, num 1, return")
	}
	checkCommands(t, `
		{ wrch(a) ; { let a = a ; a := b } ; a := 1 } => stack 6, local 2, global 3, call 4, stack 4, local 2, local 3, putl 4, stack 4, num 1, putl 2
		{ let s = s ; s := s }                        => static 0, local 4, putl 4, stack 4
		{ let a, b = b, a ; a := b }                  => local 3, local 2, local 5, putl 4, stack 4
		{ let b = 1 ; let b = b + 1 ; b := b }        => num 1, local 4, num 1, bin add, local 5, putl 5, stack 4
		for a = a to a do a := b                      => local 2, local 2, jump 3, label 1, stack 6, local 3, putl 4, label 2, stack 6, local 4, num 1, bin add, putl 4, label 3, stack 6, local 4, local 5, bin le, true 1, label 4, stack 4
	`)
	// Behind a CFor its name means what it meant before, and behind a procedure its parameters and locals mean nothing.
	checkCommands(t, "{ for a = 1 to 2 do { } ; a := a } => num 1, num 2, jump 3, label 1, stack 6, label 2, stack 6, local 4, num 1, bin add, putl 4, label 3, stack 6, local 4, local 5, bin le, true 1, label 4, stack 4, local 2, putl 2")
	checkCode(t, "static { x = 1 ; y = 2 } let f(x) be { let y = x ; y := x } let g() = x + y",
		"enter 1 1, local 2, local 2, putl 3, stack 3, back, enter 2 0, static 0, static 1, bin add, return")
}

func TestParameters(t *testing.T) {
	checkCode(t, "let f() = 1", "enter 1 0, num 1, return")
	checkCode(t, "let f(a, b, c, d, e, g, h, i) = i + a", "enter 1 8, local 9, local 2, bin add, return")
	checkCode(t, "let f(a, b, c, d, e, g, h, i) be { let x = i ; x := a }", "enter 1 8, local 9, local 2, putl 10, stack 10, back")
}

func TestOperators(t *testing.T) {
	for operator, name := range map[string]string{"*": "mul", "/": "div", "rem": "rem", "+": "add", "-": "sub", "<<": "shl", ">>": "shr", "&": "and", "|": "or", "xor": "xor", "eqv": "eqv", "=": "eq", "~=": "ne", "<": "lt", "<=": "le", ">": "gt", ">=": "ge"} {
		checkExprs(t, "a "+operator+" b => local 2, local 3, bin "+name)
		checkExprs(t, "(1 "+operator+" a) "+operator+" (b "+operator+" 2) => num 1, local 2, bin "+name+", local 3, num 2, bin "+name+", bin "+name)
	}
	checkExprs(t, `
		- a                 => local 2, un neg
		~ a                 => local 2, un not
		~ (a & ~ b)         => local 2, local 3, un not, bin and, un not
	`)
}

func TestCells(t *testing.T) {
	checkExprs(t, `
		a ! b               => local 2, local 3, bin add, load
		a ! 0               => local 2, num 0, bin add, load
		a ! b ! 1           => local 2, local 3, bin add, load, num 1, bin add, load
		a % b               => local 2, local 3, getb
		a % (b % 1)         => local 2, local 3, num 1, getb, getb
		! a                 => local 2, load
		! ! a               => local 2, load, load
		! (a + 1)           => local 2, num 1, bin add, load
		! a ! b             => local 2, load, local 3, bin add, load
		! (a ! b)           => local 2, local 3, bin add, load, load
	`)
}

func TestAddresses(t *testing.T) {
	checkExprs(t, `
		@ a                 => addrl 2
		@ b                 => addrl 3
		@ s                 => addrs 0
		@ t                 => addrs 1
		@ gl                => addrg 50
		@ (a ! b)           => local 2, local 3, bin add
		@ (a ! b ! 1)       => local 2, local 3, bin add, load, num 1, bin add
		@ ! a               => local 2
		@ ! ! a             => local 2, load
		@ ! @ s             => addrs 0
		! @ a               => addrl 2, load
		@ a ! 1             => addrl 2, num 1, bin add, load
	`)
	checkCommands(t, "{ let x = @ a ; x := @ x } => addrl 2, addrl 4, putl 4, stack 4")
}

func TestCalls(t *testing.T) {
	checkExprs(t, `
		p()                 => stack 6, proc 3, call 4
		p(a)                => stack 6, local 2, proc 3, call 4
		wrch(a, b, 3)       => stack 6, local 2, local 3, num 3, global 3, call 4
		f(1, 2, 3, 4, 5, 6, 7, 8) => stack 6, num 1, num 2, num 3, num 4, num 5, num 6, num 7, num 8, proc 1, call 4
		g()                 => stack 6, global 51, call 4
		gl(a)               => stack 6, local 2, global 50, call 4
		s(a)                => stack 6, local 2, static 0, call 4
		a(b)                => stack 6, local 3, local 2, call 4
		(a ! b)(1)          => stack 6, num 1, local 2, local 3, bin add, load, call 4
		1 + p(a)            => num 1, stack 7, local 2, proc 3, call 5, bin add
		p(p(a))             => stack 6, stack 8, local 2, proc 3, call 6, proc 3, call 4
		p(a, p(b))          => stack 6, local 2, stack 9, local 3, proc 3, call 7, proc 3, call 4
		p()()               => stack 6, stack 8, proc 3, call 6, call 4
		p(a)(b)             => stack 6, local 3, stack 9, local 2, proc 3, call 7, call 4
	`)
}

func TestConditionals(t *testing.T) {
	checkExprs(t, `
		a -> b, 1           => local 2, false 1, local 3, jump 2, label 1, stack 4, num 1, label 2, stack 5
		1 + (a -> b, 1)     => num 1, local 2, false 1, local 3, jump 2, label 1, stack 5, num 1, label 2, stack 6, bin add
		a -> 1, b -> 2, 3   => local 2, false 1, num 1, jump 2, label 1, stack 4, local 3, false 3, num 2, jump 4, label 3, stack 4, num 3, label 4, stack 5, label 2, stack 5
		a -> (b -> 1, 2), 3 => local 2, false 1, local 3, false 3, num 1, jump 4, label 3, stack 4, num 2, label 4, stack 5, jump 2, label 1, stack 4, num 3, label 2, stack 5
		(a -> b, 1) -> 2, 3 => local 2, false 1, local 3, jump 2, label 1, stack 4, num 1, label 2, stack 5, false 3, num 2, jump 4, label 3, stack 4, num 3, label 4, stack 5
	`)
}

// The labels of a valof's block come behind its own one.
func TestValofs(t *testing.T) {
	checkExprs(t, `
		valof { resultis a }                       => local 2, result 1, num 0, result 1, label 1, take 4
		1 + valof { resultis a }                   => num 1, local 2, result 1, num 0, result 1, label 1, take 5, bin add
		valof { }                                  => num 0, result 1, label 1, take 4
		valof { let x = a ; resultis x }           => local 2, local 4, result 1, stack 4, num 0, result 1, label 1, take 4
		valof { l : resultis a ; goto l }          => label 2, stack 4, local 2, result 1, jump 2, num 0, result 1, label 1, take 4
		valof { if a do resultis 1 ; resultis 2 }  => local 2, false 2, num 1, result 1, label 2, stack 4, num 2, result 1, num 0, result 1, label 1, take 4
		valof { for i = 1 to 2 do resultis i }     => num 1, num 2, jump 4, label 2, stack 6, local 4, result 1, label 3, stack 6, local 4, num 1, bin add, putl 4, label 4, stack 6, local 4, local 5, bin le, true 2, label 5, stack 4, num 0, result 1, label 1, take 4
	`)
}

// CResult leads out of the innermost valof.
func TestResultsOfValofsInValofs(t *testing.T) {
	checkExprs(t, `
		valof { resultis valof { resultis a } }        => local 2, result 2, num 0, result 2, label 2, take 4, result 1, num 0, result 1, label 1, take 4
		valof { a := valof { resultis 1 } ; resultis 2 } => num 1, result 2, num 0, result 2, label 2, take 4, putl 2, num 2, result 1, num 0, result 1, label 1, take 4
		valof { resultis 1 } + valof { resultis 2 }    => num 1, result 1, num 0, result 1, label 1, take 4, num 2, result 2, num 0, result 2, label 2, take 5, bin add
	`)
}

func TestSelectorsAsValues(t *testing.T) {
	checkExprs(t, `
		slct(3, 2, 1) of a  => local 2, num 1, bin add, load, num 2, bin shr, num 7, bin and
		slct(0, 0, 0) of a  => local 2, load
		slct(0, 0, 7) of a  => local 2, num 7, bin add, load
		slct(0, 5, 0) of a  => local 2, load, num 5, bin shr
		slct(4, 0, 0) of a  => local 2, load, num 15, bin and
		slct(0, 2, 1) of a  => local 2, num 1, bin add, load, num 2, bin shr
		slct(3, 0, 1) of a  => local 2, num 1, bin add, load, num 7, bin and
		slct(3, 2, 0) of a  => local 2, load, num 2, bin shr, num 7, bin and
		slct(16, 0, 255) of a => local 2, num 255, bin add, load, num 65535, bin and
		slct(0, 16, 0) of a => local 2, load, num 16, bin shr
		slct(1, 15, 0) of a => local 2, load, num 15, bin shr, num 1, bin and
		sel of a            => local 2, num 1, bin add, load, num 2, bin shr, num 7, bin and
		1091 of (a + b)     => local 2, local 3, bin add, num 1, bin add, load, num 2, bin shr, num 7, bin and
		(m - 2) of a        => local 2, load, num 7, bin and
		sel of a ! b        => local 2, num 1, bin add, load, num 2, bin shr, num 7, bin and, local 3, bin add, load
		sel of (a ! b)      => local 2, local 3, bin add, load, num 1, bin add, load, num 2, bin shr, num 7, bin and
	`)
}

func TestStringsAndTables(t *testing.T) {
	checkExprs(t, `
		"abc"               => addrs 2
		"abc" % 1           => addrs 2, num 1, getb
		table(1, 2)         => addrs 2
		table(1, 2) ! a     => addrs 2, local 2, bin add, load
		"a" + "a"           => addrs 2, addrs 3, bin add
		table(1) + "" + table(1) => addrs 2, addrs 3, bin add, addrs 4, bin add
		p("x", table(1))    => stack 6, addrs 2, addrs 3, proc 3, call 4
	`)
}

// Statics are the first areas, wherever they are declared; then come strings and tables as they stand in the code. None is shared.
func TestAreas(t *testing.T) {
	checkData(t, "let f() = 1")
	checkData(t, "static { a = 1 ; b = - 2 } let f() = \"xy\" + table(3, 4) static { c = 1 << 31 } let g() = \"xy\"",
		words(1), words(-2), words(-2147483648), text("xy"), words(3, 4), text("xy"))
	checkData(t, "manifest { m = 6 } static { a = m * 7 ; b = true -> m, 1 / 0 }", words(42), words(6))
	checkData(t, "manifest { m = 6 } let f() = table(m, - m, true, false, slct(1, 2, 3), #80000000, m -> 1, 2)", words(6, -6, -1, 0, 3137, -2147483648, 1))
	checkData(t, "let f() = \"\"", text(""))
	checkData(t, "let f() = \"*n\"", text("\n"))
	// The arguments of a call stand before its procedure, the right of an assignment before its left.
	checkData(t, "let f() be { (\"a\" ! 1)(\"b\", \"c\") ; \"d\" ! \"e\" := \"f\" ; slct(1, 0, 0) of \"g\" := \"h\" }",
		text("b"), text("c"), text("a"), text("f"), text("d"), text("e"), text("g"), text("h"))
}

func TestDataAreWordsOrTexts(t *testing.T) {
	c := mustCompile(t, "static { s = 0 } let f() = \"ab\" + table(9)")
	if len(c.Data) != 3 || c.Data[0].IsText || !c.Data[1].IsText || c.Data[2].IsText || c.Data[1].Words != nil || c.Data[2].Text != "" || c.Data[0].Text != "" {
		t.Errorf("areas: %v", c.Data)
	}
	if c.Labels != 0 || c.Procs != 1 || c.Name != "" || len(c.Globals) != 0 {
		t.Errorf("code: %v", c)
	}
}
