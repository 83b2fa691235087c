package mean_test

import (
	"fmt"
	"strings"
	"testing"

	"bluebell/api"
)

// P5.1: each way to be wild, and what is fine beside it.

// noValues are uses of the expression V for which nothing is wild; each is fine with the value that stands behind it.
const noValues = `
	w(V + 1) => 1
	w(1 + V) => 1
	w(V - 1) => 1
	w(1 - V) => 1
	w(V * 1) => 1
	w(1 / V) => 1
	w(1 rem V) => 1
	w(V << 1) => 1
	w(1 >> V) => 1
	w(V & 1) => 1
	w(1 | V) => 1
	w(V xor 1) => 1
	w(1 eqv V) => 1
	w(V = 0) => 1
	w(0 ~= V) => 1
	w(V = id) => id
	w(@ st = V) => @ st
	w(V = V) => id
	w(V < 1) => 1
	w(1 <= V) => 1
	w(V > 1) => 1
	w(1 >= V) => 1
	w(- V) => 1
	w(~ V) => 1
	if V do { } => 1
	unless V do { } => 1
	test V then { } else { } => 1
	while V do { } => 0
	until V do { } => 1
	{ } repeatwhile V => 0
	{ } repeatuntil V => 1
	w(V -> 1, 2) => 1
	switchon V into { default : } => 1
	switchon V into { } => 1
	id(V(1)) => id
	let f = V ; f(1) => id
	w(! V) => @ st
	w(V ! 0) => @ st
	w(0 ! V) => @ st
	w(st ! V) => @ st - 7 + 0
	w(@ st ! V) => 0
	w(V ! @ st) => 0
	! V := 1 => @ st
	V ! 0 := 1 => @ st
	0 ! V := 1 => @ st
	@ st ! V := 1 => 0
	V ! @ st := 1 => 0
	id(@ ! V) => @ st
	id(@(V ! 0)) => @ st
	id(@(@ st ! V)) => 0
	w(V % 0) => ""
	w("" % V) => 0
	V % 0 := 1 => ""
	"" % V := 1 => 0
	"" % 0 := V => 1
	w(slct(1, 0, 0) of V) => @ st
	slct(1, 0, 0) of V := 1 => @ st
	slct(1, 0, 0) of @ st := V => 1
	let v = vec 0 ; ! v := V ; w(slct(1, 0, 0) of v) => 1
	let v = vec 0 ; ! v := V ; slct(1, 0, 0) of v := 1 => 1
	for i = V to 1 do { } => 1
	for i = 1 to V do { } => 1
	for i = 1 to 2 do i := V => 5
	wrch(V) => 65
	stop(V) => 65
	getvec(V) => 5
	freevec(V) => 0
	muldiv(V, 1, 1) => 1
	muldiv(1, V, 1) => 1
	muldiv(1, 1, V) => 1`

func TestNothing(t *testing.T) {
	pairs(noValues, func(use, fine string) {
		checkWild(t, strings.ReplaceAll(use, "V", "?"), "")
		// Nothing comes from a cell that was not written, a call and a valof, too.
		checkWild(t, "let no_value = ? ; "+strings.ReplaceAll(use, "V", "no_value"), "")
		checkWild(t, strings.ReplaceAll(use, "V", "id(gl)"), "")
		checkWild(t, strings.ReplaceAll(use, "V", "(valof { resultis ? })"), "")
		for _, f := range forms() {
			if r, _ := run(t, started(strings.ReplaceAll(use, "V", "("+fine+")")), f, "", enough); r.End != api.Done && r.End != api.Stopped {
				t.Errorf("%s with %s by %v: %v", use, fine, f, r)
			}
		}
	})
}

// To be stored, passed and returned nothing is fine.
func TestNothingThatIsFine(t *testing.T) {
	for _, items := range []string{
		"let x = ?", "let x, y = ?, ? ; x := y ; x, y := ?, x", "st := ? ; gl := st ; st := gl", "let v = vec 1 ; ! v := ? ; v ! 1 := ! v ; v ! 0 := v ! 1",
		"no(?)", "no(two(?, 1))", "no(two(1, ?))", "no(id(?)) ; id(?)", "let x = id(?)", "let x = valof { resultis ? }", "let x = (true -> ?, 1)", "let x = (false -> 1, ?) ; no(x)",
		"let f = ? ; f := id ; f(1)", "let x = getvec(0) ; let y = ! x ; ! x := y", "gl := @ st ; ! gl := ?", "for i = 1 to 3 do { i := ? ; break }", "let x = ? ; @ x % 0 := 1", "let x = 5 ; x := ? ; @ x % 0 := 1", "st := ? ; @ st % 0 := 1 ; id(@ st % 0 - 1)",
	} {
		checkWild(t, items+" ; w(1) ; w(?)", "1 ")
	}
}

// operand is a value of some kind, in the block that operandsAround makes.
type operand struct {
	text      string
	object    string // of an address
	at, cells int
	hasEnded  bool
}

const operandsAround = "let a, b, x = getvec(3), getvec(3), getvec(0) ; let e = valof { let local = 1 ; resultis @ local } ; let s = \"\" ; freevec(x) ; "

func operands() []operand {
	l := []operand{{"a", "a", 0, 4, false}, {"(a + 2)", "a", 2, 4, false}, {"(a + 4)", "a", 4, 4, false}, {"(a + 5)", "a", 5, 4, false}, {"(a - 1)", "a", -1, 4, false}, {"b", "b", 0, 4, false}, {"(b + 4)", "b", 4, 4, false}, {"e", "e", 0, 1, true}, {"(e + 1)", "e", 1, 1, true}, {"(e + 2)", "e", 2, 1, true}, {"x", "x", 0, 1, true}, {"s", "s", 0, 1, false}, {"(s + 1)", "s", 1, 1, false}}
	for _, text := range []string{"5", "0", "id", "two", "gp", "wrch", "cowait", "?"} {
		l = append(l, operand{text: text})
	}
	return l
}

func (x operand) isNumber() bool {
	return x.text == "5" || x.text == "0"
}

func (x operand) isAddress() bool {
	return x.object != ""
}

func (x operand) isProcedure() bool {
	return !x.isNumber() && !x.isAddress() && x.text != "?"
}

func (x operand) isThere() bool {
	return x.isAddress() && !x.hasEnded && 0 <= x.at && x.at < x.cells
}

func (x operand) isWithin() bool {
	return 0 <= x.at && x.at <= x.cells
}

// expected tells what an operator gives with operands of which not both are numbers, as the chapter says it: a text of digits, or nothing if it is wild.
func expected(op string, l, r operand) string {
	isRelation := strings.Contains("= ~= < <= > >=", op)
	if l.isAddress() && l.object == r.object {
		results := map[string]int{"-": l.at - r.at, "=": truth(l.at == r.at), "~=": truth(l.at != r.at), "<": truth(l.at < r.at), "<=": truth(l.at <= r.at), ">": truth(l.at > r.at), ">=": truth(l.at >= r.at)}
		if l.isWithin() && r.isWithin() && (isRelation || op == "-") {
			return fmt.Sprint(results[op])
		}
		return ""
	}
	isThing := func(x operand) bool { return x.isThere() || x.isProcedure() || x.text == "0" }
	if (op == "=" || op == "~=") && isThing(l) && isThing(r) {
		return fmt.Sprint(truth((l.text == r.text) == (op == "=")))
	}
	return ""
}

func truth(holds bool) int {
	if holds {
		return -1
	}
	return 0
}

func TestOperatorsWithEachKind(t *testing.T) {
	t.Parallel()
	fine := 0
	for _, l := range operands() {
		for _, r := range operands() {
			for _, op := range strings.Fields("* / rem + - << >> & | xor eqv = ~= < <= > >=") {
				isMoved := op == "+" && (l.isAddress() && r.isNumber() || l.isNumber() && r.isAddress()) || op == "-" && l.isAddress() && r.isNumber()
				if l.isNumber() && r.isNumber() || isMoved {
					continue
				}
				items := operandsAround + "w(" + l.text + " " + op + " " + r.text + ")"
				want := expected(op, l, r)
				if want == "" {
					checkWild(t, items, "")
					continue
				}
				fine++
				checkOut(t, items, want+" ")
			}
		}
	}
	if fine < 200 {
		t.Errorf("only %d are fine", fine)
	}
}

func TestAddressesMove(t *testing.T) {
	pairs(`
		let v = vec 9 ; w(v + 3 - v) ; w(3 + v - v) ; w(v + 9 - 4 - v) ; w(v + 5 - (v + 7)) => 3 3 5 -2
		let v = vec 9 ; w(v - 100 + 104 - v) ; w(v + 30000 - 29999 - v) => 4 1
		let v = vec 9 ; let p = v + 30000 + 30000 + 30000 + 30000 ; p := p - 30000 - 30000 - 30000 - 30000 ; ! p := 6 ; w(v ! 0) => 6
		let v = vec 9 ; let p = v - (- 32767 - 1) ; p := p + (- 32767 - 1) ; ! p := 6 ; w(v ! 0) => 6
		let v = vec 9 ; let p = v + 10 ; w(p - v) ; w(p > v) ; w(p = v) ; w(p = p) ; p ! (- 1) := 4 ; w(v ! 9) => 10 -1 0 -1 4`, func(items, want string) {
		checkOut(t, items, want+" ")
	})
	// By 16 bits 65536 is 0; what was added before stays added.
	for _, f := range forms() {
		src := started("let v = vec 9 ; let p = v + 32767 + 32767 + 2 ; w(1) ; w(p - v)")
		if r, _ := run(t, src, f, "", enough); r.Out != "1 " || r.End != api.Wild {
			t.Errorf("by %v: %v", f, r)
		}
	}
}

func TestUnaryOperatorsConditionsAndCallsWithEachKind(t *testing.T) {
	for _, x := range operands() {
		if x.isNumber() {
			continue
		}
		for _, use := range []string{"w(- V)", "w(~ V)", "switchon V into { default : }", "wrch(V)", "stop(V)", "getvec(V)", "muldiv(1, 1, V)", "for i = V to 1 do { }", "for i = 1 to V do { }", "w(\"\" % V)", "\"\" % 0 := V", "slct(1, 0, 0) of @ st := V", "gl := V ; w(slct(1, 0, 0) of @ gl)"} {
			checkWild(t, operandsAround+strings.ReplaceAll(use, "V", x.text), "")
		}
		if x.isThere() || x.isProcedure() {
			checkOut(t, operandsAround+"if "+x.text+" do w(1) ; unless "+x.text+" do w(2) ; w("+x.text+" -> 3, 4)", "1 3 ")
		} else {
			checkWild(t, operandsAround+"if "+x.text+" do w(1)", "")
		}
		if !x.isProcedure() || x.text == "two" || x.text == "cowait" {
			checkWild(t, operandsAround+x.text+"(1)", "")
		}
		if x.isAddress() {
			checkOut(t, operandsAround+"let p = @ ! "+x.text+" ; p := @("+x.text+" ! 3) ; p := @(3 ! "+x.text+") ; w(1)", "1 ")
		} else {
			checkWild(t, operandsAround+"let p = @ ! "+x.text, "")
			checkWild(t, operandsAround+"let p = @("+x.text+" ! 3)", "")
		}
	}
	for _, items := range []string{"w(! 5)", "w(5 ! 5)", "w(! id)", "! 5 := 1", "5 ! 5 := 1", "! id := 1", "id ! 0 := 1", "w(id ! 0)", "w(5 % 0)", "w(id % 0)", "5 % 0 := 1", "id % 0 := 1", "id(@ ! 5)", "id(@(5 ! 5))", "w(slct(1, 0, 0) of 5)", "slct(1, 0, 0) of 5 := 1", "w(st ! st)", "w(@ st ! @ st)", "w(@ st % @ st)", "w(0 % \"\")"} {
		checkWild(t, items, "")
	}
}

func TestCellsThatAreNotThere(t *testing.T) {
	for _, x := range []struct {
		around string
		cells  int
	}{
		{"let v = vec 3 ; ", 4}, {"let v = vec 0 ; ", 1}, {"let v = getvec(3) ; ", 4}, {"let v = getvec(0) ; ", 1}, {"let v = table(1, 2, 3) ; ", 3}, {"let x = 1 ; let v = @ x ; ", 1}, {"let v = @ st ; ", 1}, {"let v = @ gl ; ", 1}, {"for i = 1 to 1 do { let v = @ i ; ", 1},
	} {
		end := strings.Repeat(" }", strings.Count(x.around, "{"))
		for _, at := range []int{-32768 + 1, -2, -1, x.cells, x.cells + 1, 32767} {
			for _, use := range []string{"id(v ! (AT))", "id(!(v + (AT)))", "v ! (AT) := 1", "v ! (AT) := ?", "(v + (AT)) % 0 := 1", "id((v + (AT)) % 0)", "id(slct(0, 0, 0) of (v + (AT)))", "slct(0, 0, 0) of (v + (AT)) := 1"} {
				checkWild(t, x.around+"w(1) ; "+strings.ReplaceAll(use, "AT", fmt.Sprint(at))+end, "1 ")
			}
			checkOut(t, strings.ReplaceAll(x.around+"id(@(v ! (AT))) ; id(v + (AT)) ; w(1)"+end, "AT", fmt.Sprint(at)), "1 ")
		}
		for _, at := range []int{0, x.cells - 1} {
			checkOut(t, strings.ReplaceAll(x.around+"v ! AT := 5 ; w(v ! AT) ; slct(0, 0, 0) of (v + AT) := 6 ; w(slct(0, 0, 0) of (v + AT))"+end, "AT", fmt.Sprint(at)), "5 6 ")
		}
		if x.around[:3] == "let" && strings.Contains(x.around, "vec") {
			checkOut(t, x.around+fmt.Sprintf("(v + %d) %% 0 := 5 ; w((v + %d) %% 0)", x.cells-1, x.cells-1), "5 ")
		}
	}
}

// What has ended can be compared within itself, and passed on, but not be used.
func TestObjectsThatHaveEnded(t *testing.T) {
	for _, around := range []string{
		"let p = ? ; { let x = 1 ; p := @ x } ; ",
		"let p = ? ; { let v = vec 0 ; ! v := 1 ; p := v } ; ",
		"let p = ? ; { let v = vec 0 ; p := @ v } ; ",
		"let p = valof { let x = 1 ; resultis @ x } ; ",
		"let p = valof { let v = vec 0 ; ! v := 1 ; resultis v } ; ",
		"let p = ? ; for i = 1 to 1 do p := @ i ; ",
		"let p = ? ; for i = 1 to 3 do { p := @ i ; break } ; ",
		"let p = ? ; for i = 1 to 3 do { let x = i ; if i = 1 do p := @ x } ; ",
		"let p = ? ; for i = 1 to 2 do { let x = 1 ; test i = 1 then { p := @ x ; loop } else break } ; ",
		"let p = ? ; switchon 1 into { case 1 : ; let x = 1 ; p := @ x ; endcase } ; ",
		"let p = ? ; { let x = 1 ; p := @ x ; goto l } ; l : ; ",
		"let p = getvec(0) ; ! p := 1 ; freevec(p) ; ",
		"gl := ? ; local() ; let p = gl ; ", "gl := ? ; vector() ; let p = gl ; ", "let p = param(1) ; ", "let p = inner(1) ; ", "gl := ? ; early(1) ; let p = gl ; ",
	} {
		more := " let local() be { let x = 1 ; gl := @ x } let vector() be { let v = vec 0 ; ! v := 1 ; gl := v } let param(x) = @ x let inner(n) = valof { let x = 1 ; resultis @ x } let early(n) be { let x = 1 ; gl := @ x ; { let y = 2 ; return } }"
		for _, use := range []string{"id(! p)", "! p := 1", "! p := ?", "p % 0 := 1", "id(p % 0)", "id(slct(0, 0, 0) of p)", "slct(0, 0, 0) of p := 1", "if p do { }", "id(p = 0)", "id(p ~= @ st)", "id(id = p)", "freevec(p)"} {
			for _, f := range []api.Form{{Bits: 16}, {Bits: 32, Big: true}} {
				src := started(around+"w(1) ; "+use) + more
				if r, _ := run(t, src, f, "", enough); r.Out != "1 " || r.End != api.Wild {
					t.Errorf("%s%s by %v: %v", around, use, f, r)
				}
			}
		}
		r, _ := run(t, started(around+"let q = p ; id(q) ; w(p = q) ; w(p + 1 > q) ; w(p + 1 - q) ; id(@ ! p)")+more, form16, "", enough)
		if r.Out != "-1 -1 1 " || r.End != api.Done {
			t.Errorf("%s: %v", around, r)
		}
	}
}

func TestObjectsThatGoOn(t *testing.T) {
	pairs(`
		let x = 1 ; let p = @ x ; { let x = 2 ; { let y = 3 } ; w(! p) } ; w(! p) => 1 1
		let v = vec 1 ; for i = 0 to 1 do v ! i := i ; w(v ! 1) => 1
		let p = ? ; { let x = 1 ; p := @ x ; { w(! p) } ; for i = 1 to 1 do w(! p) ; no(w(! p)) ; w(valof { resultis ! p }) } => 1 1 1 1
		let p = ? ; for i = 1 to 3 do { test i = 1 then p := @ i else w(! p) } => 2 3
		let p = getvec(0) ; { ! p := 4 } ; w(! p) => 4
		gl := @ st ; w(! gl) => 7`, func(items, want string) {
		checkOut(t, items, want+" ")
	})
	r, _ := run(t, started("let x = 3 ; f(@ x, 2) ; w(x)")+" let f(p, n) be { ! p := ! p + 1 ; if n > 0 do { let v = vec 3 ; f(p, n - 1) } }", form16, "", enough)
	if r.Out != "6 " || r.End != api.Done {
		t.Errorf("%v", r)
	}
}

func TestBytesAndWordsOfOneCell(t *testing.T) {
	for _, items := range []string{
		"let x = 1 ; w(1) ; @ x % 0 := 5", "let x = 1 ; w(1) ; w(@ x % 0)", "let x = ? ; w(1) ; w(@ x % 0)", "let x = @ st ; w(1) ; @ x % 0 := 5", "let x = id ; w(1) ; w(@ x % 0)",
		"let x = ? ; @ x % 0 := 5 ; w(1) ; w(@ x % 1)", "let x = ? ; @ x % 1 := 5 ; w(1) ; w(@ x % 0)",
		"let x = ? ; @ x % 0 := 5 ; w(1) ; id(x)", "let x = ? ; @ x % 0 := 5 ; w(1) ; x := 1", "let x = ? ; @ x % 0 := 5 ; w(1) ; x := ?", "let x = ? ; @ x % 0 := 5 ; w(1) ; id(! @ x)", "let x = ? ; @ x % 0 := 5 ; w(1) ; ! @ x := 1", "let x = ? ; @ x % 0 := 5 ; w(1) ; let y = x", "let x = ? ; @ x % 0 := 5 ; w(1) ; id(slct(8, 0, 0) of @ x)", "let x = ? ; @ x % 0 := 5 ; w(1) ; slct(8, 0, 0) of @ x := 1",
		"gl := ? ; @ gl % 0 := 5 ; w(1) ; id(gl)", "gl := ? ; @ gl % 0 := 5 ; w(1) ; gl := 1", "st := ? ; @ st % 0 := 5 ; w(1) ; id(st)",
		"let s = \"ab\" ; w(1) ; id(! s)", "let s = \"ab\" ; w(1) ; s ! 0 := 1", "w(1) ; ! \"\" := ?", "w(1) ; id(slct(8, 0, 0) of \"a\")",
		"let t = table(1) ; w(1) ; w(t % 0)", "let t = table(1) ; w(1) ; t % 0 := 1", "w(1) ; w(@ st % 0)", "w(1) ; @ st % 0 := 1",
		"w(1) ; w(\"ab\" % (- 1))", "w(1) ; w(\"\" % 4)", "w(1) ; \"\" % 4 := 1", "w(1) ; w(\"abc\" % 6)",
		"let v = vec 1 ; w(1) ; v % (- 1) := 1", "let v = vec 1 ; w(1) ; v % 8 := 1", "let v = vec 1 ; w(1) ; (v + 1) % (- 5) := 1", "let v = vec 1 ; w(1) ; (v + 3) % (- 1) := 1", "let v = vec 1 ; w(1) ; (v - 1) % (- 1) := 1",
		"w(1) ; for i = 1 to 2 do { i := ? ; @ i % 0 := 1 }",
	} {
		checkWild(t, items, "1 ")
	}
	pairs(`
		let x = ? ; @ x % 0 := 5 ; @ x % 1 := 300 ; w(@ x % 0) ; w(@ x % 1) => 5 44
		let x = ? ; @ x % 0 := 0 - 1 ; w(@ x % 0) ; @ x % 0 := 7 ; w(@ x % 0) => 255 7
		let x = 1 ; x := ? ; @ x % 1 := 6 ; w(@ x % 1) => 6
		let v = vec 3 ; v ! 3 := 4 ; v % 0 := 1 ; w(v ! 3 + v % 0) => 5
		let v = vec 3 ; (v + 2) % 0 := 1 ; v ! 0 := 4 ; v ! 0 := ? ; v % 0 := 2 ; w((v + 2) % 0) ; w(v % 0) => 1 2
		let s = "abc" ; s % 1 := 'x' ; s % 0 := 2 ; w(s % 1) ; w(s % 2) ; w(s % 0) => 120 98 2
		st := ? ; @ st % 1 := 3 ; w(@ st % 1) => 3
		gl := ? ; @ gl % 1 := 3 ; w(@ gl % 1) => 3`, func(items, want string) {
		checkOut(t, items, want+" ")
	})
}

// The byte i is in the cell i / n, rounded toward minus infinity.
func TestBytesOfEachIndex(t *testing.T) {
	for _, f := range forms() {
		n := f.Bits / 8
		for i := -3 * n; i < 3*n; i++ {
			// Byte by byte, from the middle and from the beginning of a vector.
			write := fmt.Sprintf("let v = vec 5 ; let p = v + 3 ; for i = %d to %d do p %% i := 100 + i ; ", -3*n, 3*n-1)
			read := fmt.Sprintf("w(p %% (%d)) ; w(v %% %d)", i, i+3*n)
			if r, _ := run(t, started(write+read), f, "", enough); r.Out != fmt.Sprintf("%d %d ", 100+i, 100+i) || r.End != api.Done {
				t.Errorf("byte %d by %v: %v", i, f, r)
			}
			// And by an address of the byte's own cell.
			at := (i + 3*n) / n
			read = fmt.Sprintf("w((v + %d) %% %d)", at, i+3*n-at*n)
			if r, _ := run(t, started(write+read), f, "", enough); r.Out != fmt.Sprintf("%d ", 100+i) || r.End != api.Done {
				t.Errorf("byte %d by %v, of its cell: %v", i, f, r)
			}
		}
		for _, use := range []string{"v % AT := 1", "w(v % AT)"} {
			for _, at := range []int{-1, 6 * n} {
				src := started("let v = vec 5 ; w(1) ; " + strings.ReplaceAll(use, "AT", fmt.Sprintf("(%d)", at)))
				if r, _ := run(t, src, f, "", enough); r.Out != "1 " || r.End != api.Wild {
					t.Errorf("%s with %d by %v: %v", use, at, f, r)
				}
			}
		}
	}
}

// A string has its length, its bytes, and zero bytes up to the end of its last word.
func TestBytesOfStrings(t *testing.T) {
	for _, f := range forms() {
		n := f.Bits / 8
		for length := range 9 {
			text := "abcdefgh"[:length]
			all := (length + 1 + n - 1) / n * n
			want := fmt.Sprintf("%d ", length)
			for i := range all - 1 {
				c := 0
				if i < length {
					c = int(text[i])
				}
				want += fmt.Sprintf("%d ", c)
			}
			src := started(fmt.Sprintf("for i = 0 to 100 do w(\"%s\" %% i)", text))
			if r, _ := run(t, src, f, "", enough); r.Out != want || r.End != api.Wild {
				t.Errorf("%q by %v: %v; want %q", text, f, r, want)
			}
			src = started(fmt.Sprintf("let s = \"%s\" ; let p = s + %d ; w(p - s) ; w(s = p) ; w(p + 1 - s)", text, all/n))
			if r, _ := run(t, src, f, "", enough); r.Out != fmt.Sprintf("%d 0 ", all/n) || r.End != api.Wild {
				t.Errorf("%q by %v: %v", text, f, r)
			}
		}
	}
}

func TestCalls(t *testing.T) {
	for _, items := range []string{
		"w(1) ; id()", "w(1) ; id(1, 2)", "w(1) ; two(1)", "w(1) ; start(1)", "w(1) ; gp(1, 2)", "let f = two ; w(1) ; f(1)", "w(1) ; st()", "w(1) ; (@ st)(1)", "w(1) ; \"\"(1)", "w(1) ; 5(1)", "w(1) ; gl(1)", "w(1) ; table(1)(1)", "let v = vec 1 ; w(1) ; v()",
		"w(1) ; rdch(1)", "w(1) ; wrch()", "w(1) ; wrch(1, 2)", "w(1) ; stop()", "w(1) ; stop(1, 2)", "w(1) ; getvec()", "w(1) ; getvec(1, 2)", "w(1) ; freevec()", "w(1) ; freevec(0, 0)", "w(1) ; muldiv(1, 2)", "w(1) ; muldiv(1, 2, 3, 4)",
	} {
		checkWild(t, items, "1 ")
	}
	// Arguments are computed, and the procedure, before it is looked at what they are.
	checkWild(t, "(valof { w(2) ; resultis 5 })(valof { w(1) ; resultis 1 })", "1 2 ")
	checkWild(t, "id(valof { w(1) ; resultis 1 }, valof { w(2) ; resultis ? })", "1 2 ")
	checkWild(t, "muldiv(valof { w(1) ; resultis ? }, 1, valof { w(2) ; resultis 0 })", "1 2 ")
	checkWild(t, "muldiv(1, ?, 0)", "")
}
