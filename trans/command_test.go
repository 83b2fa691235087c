package trans_test

import (
	"strconv"
	"testing"

	"bluebell/api"
)

// P7.1: commands.

func TestAssignments(t *testing.T) {
	checkCommands(t, `
		a := b              => local 3, putl 2
		s := b              => local 3, puts 0
		t := s              => static 0, puts 1
		gl := b             => local 3, putg 50
		a ! b := 1          => num 1, local 2, local 3, bin add, store
		a ! 0 := 1          => num 1, local 2, num 0, bin add, store
		a ! b ! 2 := 1      => num 1, local 2, local 3, bin add, load, num 2, bin add, store
		! a := 1            => num 1, local 2, store
		! ! a := 1          => num 1, local 2, load, store
		! (a + 1) := b      => local 3, local 2, num 1, bin add, store
		a % b := 1          => num 1, local 2, local 3, putb
		a ! 1 % b := 1      => num 1, local 2, num 1, bin add, load, local 3, putb
	`)
}

func TestAssignmentsOfPairs(t *testing.T) {
	checkCommands(t, `
		a, b := b, a        => local 3, putl 2, local 2, putl 3
		a, ! a, s := 1, 2, 3 => num 1, putl 2, num 2, local 2, store, num 3, puts 0
		a ! 0, a % 1, gl := b, a, 2 => local 3, local 2, num 0, bin add, store, local 2, local 2, num 1, putb, num 2, putg 50
		a, a, a, a, a, a, a, b := 1, 2, 3, 4, 5, 6, 7, 8 => num 1, putl 2, num 2, putl 2, num 3, putl 2, num 4, putl 2, num 5, putl 2, num 6, putl 2, num 7, putl 2, num 8, putl 3
	`)
}

// A part of a word is written with the word's address as a local.
func TestSelectorsAsLefts(t *testing.T) {
	checkCommands(t, `
		slct(3, 2, 1) of a := b => local 2, num 1, bin add, local 3, num 7, bin and, num 2, bin shl, local 4, load, num -29, bin and, bin or, local 4, store, stack 4
		slct(0, 0, 0) of a := b => local 2, local 3, local 4, load, num 0, bin and, bin or, local 4, store, stack 4
		slct(3, 0, 0) of a := b => local 2, local 3, num 7, bin and, local 4, load, num -8, bin and, bin or, local 4, store, stack 4
		slct(0, 3, 0) of a := b => local 2, local 3, num 3, bin shl, local 4, load, num 7, bin and, bin or, local 4, store, stack 4
		slct(0, 0, 2) of a := b => local 2, num 2, bin add, local 3, local 4, load, num 0, bin and, bin or, local 4, store, stack 4
		slct(3, 2, 0) of a := b => local 2, local 3, num 7, bin and, num 2, bin shl, local 4, load, num -29, bin and, bin or, local 4, store, stack 4
		slct(3, 0, 1) of a := b => local 2, num 1, bin add, local 3, num 7, bin and, local 4, load, num -8, bin and, bin or, local 4, store, stack 4
		slct(0, 2, 1) of a := b => local 2, num 1, bin add, local 3, num 2, bin shl, local 4, load, num 3, bin and, bin or, local 4, store, stack 4
		slct(16, 0, 255) of a := b => local 2, num 255, bin add, local 3, num 65535, bin and, local 4, load, num -65536, bin and, bin or, local 4, store, stack 4
		slct(0, 16, 0) of a := b => local 2, local 3, num 16, bin shl, local 4, load, num 65535, bin and, bin or, local 4, store, stack 4
		slct(1, 15, 0) of a := b => local 2, local 3, num 1, bin and, num 15, bin shl, local 4, load, num -32769, bin and, bin or, local 4, store, stack 4
		sel of (a + b) := 1 => local 2, local 3, bin add, num 1, bin add, num 1, num 7, bin and, num 2, bin shl, local 4, load, num -29, bin and, bin or, local 4, store, stack 4
		{ let x = 1 ; slct(0, 0, 0) of x := slct(0, 0, 0) of a } => num 1, local 4, local 2, load, local 5, load, num 0, bin and, bin or, local 5, store, stack 5, stack 4
		slct(0, 0, 0) of a, a := p(b), 1 => local 2, stack 7, local 3, proc 3, call 5, local 4, load, num 0, bin and, bin or, local 4, store, stack 4, num 1, putl 2
	`)
}

func TestCallsAsCommands(t *testing.T) {
	checkCommands(t, `
		p(a)                => stack 6, local 2, proc 3, call 4, stack 4
		p(a)()              => stack 6, stack 8, local 2, proc 3, call 6, call 4, stack 4
		{ p() ; p() }       => stack 6, proc 3, call 4, stack 4, stack 6, proc 3, call 4, stack 4
		{ let x = 1 ; p(x) } => num 1, stack 7, local 4, proc 3, call 5, stack 5, stack 4
	`)
}

func TestConditions(t *testing.T) {
	checkCommands(t, `
		if a do b := 1      => local 2, false 1, num 1, putl 3, label 1, stack 4
		unless a do b := 1  => local 2, true 1, num 1, putl 3, label 1, stack 4
		test a then b := 1 else b := 2 => local 2, false 1, num 1, putl 3, jump 2, label 1, stack 4, num 2, putl 3, label 2, stack 4
		if a do             => local 2, false 1, label 1, stack 4
		if a do if b do a := 1 => local 2, false 1, local 3, false 2, num 1, putl 2, label 2, stack 4, label 1, stack 4
		if a -> 1, b do b := 2 => local 2, false 1, num 1, jump 2, label 1, stack 4, local 3, label 2, stack 5, false 3, num 2, putl 3, label 3, stack 4
		test a -> 1, 2 then if a do { } else unless b do { } => local 2, false 1, num 1, jump 2, label 1, stack 4, num 2, label 2, stack 5, false 3, local 2, false 5, label 5, stack 4, jump 4, label 3, stack 4, local 3, true 6, label 6, stack 4, label 4, stack 4
	`)
}

func TestWhileAndUntil(t *testing.T) {
	checkCommands(t, `
		while a do b := 1   => label 1, stack 4, local 2, false 2, num 1, putl 3, jump 1, label 2, stack 4
		until a do b := 1   => label 1, stack 4, local 2, true 2, num 1, putl 3, jump 1, label 2, stack 4
		while a do loop     => label 1, stack 4, local 2, false 2, jump 1, jump 1, label 2, stack 4
		until a do break    => label 1, stack 4, local 2, true 2, jump 2, jump 1, label 2, stack 4
		while (a -> b, 1) do { let x = a ; break ; loop } => label 1, stack 4, local 2, false 3, local 3, jump 4, label 3, stack 4, num 1, label 4, stack 5, false 2, local 2, jump 2, jump 1, stack 4, jump 1, label 2, stack 4
		while a do until b do { } => label 1, stack 4, local 2, false 2, label 3, stack 4, local 3, true 4, jump 3, label 4, stack 4, jump 1, label 2, stack 4
	`)
}

func TestRepeats(t *testing.T) {
	checkCommands(t, `
		b := 1 repeat       => label 1, stack 4, num 1, putl 3, jump 1, label 2, stack 4
		b := 1 repeatwhile a => label 1, stack 4, num 1, putl 3, label 3, stack 4, local 2, true 1, label 2, stack 4
		b := 1 repeatuntil a => label 1, stack 4, num 1, putl 3, label 3, stack 4, local 2, false 1, label 2, stack 4
		break repeat        => label 1, stack 4, jump 2, jump 1, label 2, stack 4
		loop repeat         => label 1, stack 4, jump 1, jump 1, label 2, stack 4
		break repeatwhile a => label 1, stack 4, jump 2, label 3, stack 4, local 2, true 1, label 2, stack 4
		loop repeatwhile a  => label 1, stack 4, jump 3, label 3, stack 4, local 2, true 1, label 2, stack 4
		break repeatuntil a => label 1, stack 4, jump 2, label 3, stack 4, local 2, false 1, label 2, stack 4
		loop repeatuntil a  => label 1, stack 4, jump 3, label 3, stack 4, local 2, false 1, label 2, stack 4
		b := 1 repeat repeatwhile a => label 1, stack 4, label 4, stack 4, num 1, putl 3, jump 4, label 5, stack 4, label 3, stack 4, local 2, true 1, label 2, stack 4
		{ let x = 1 ; loop } repeatuntil (a -> 1, 2) => label 1, stack 4, num 1, jump 3, stack 4, label 3, stack 4, local 2, false 4, num 1, jump 5, label 4, stack 4, num 2, label 5, stack 5, false 1, label 2, stack 4
	`)
}

func TestCounting(t *testing.T) {
	checkCommands(t, `
		for i = 1 to 9 do { } => num 1, num 9, jump 3, label 1, stack 6, label 2, stack 6, local 4, num 1, bin add, putl 4, label 3, stack 6, local 4, local 5, bin le, true 1, label 4, stack 4
		for i = a to b by 2 do a := i => local 2, local 3, jump 3, label 1, stack 6, local 4, putl 2, label 2, stack 6, local 4, num 2, bin add, putl 4, label 3, stack 6, local 4, local 5, bin le, true 1, label 4, stack 4
		for i = a to b by - 2 do i := 1 => local 2, local 3, jump 3, label 1, stack 6, num 1, putl 4, label 2, stack 6, local 4, num -2, bin add, putl 4, label 3, stack 6, local 4, local 5, bin ge, true 1, label 4, stack 4
		for i = 1 to 2 by m do { } => num 1, num 2, jump 3, label 1, stack 6, label 2, stack 6, local 4, num 5, bin add, putl 4, label 3, stack 6, local 4, local 5, bin le, true 1, label 4, stack 4
		for i = 1 to 2 by low do { } => num 1, num 2, jump 3, label 1, stack 6, label 2, stack 6, local 4, num -3, bin add, putl 4, label 3, stack 6, local 4, local 5, bin ge, true 1, label 4, stack 4
		for i = 1 to 2 by 1 do { } => num 1, num 2, jump 3, label 1, stack 6, label 2, stack 6, local 4, num 1, bin add, putl 4, label 3, stack 6, local 4, local 5, bin le, true 1, label 4, stack 4
		for i = 1 to 2 by - 1 do { } => num 1, num 2, jump 3, label 1, stack 6, label 2, stack 6, local 4, num -1, bin add, putl 4, label 3, stack 6, local 4, local 5, bin ge, true 1, label 4, stack 4
		for i = 1 to 2 do loop => num 1, num 2, jump 3, label 1, stack 6, jump 2, label 2, stack 6, local 4, num 1, bin add, putl 4, label 3, stack 6, local 4, local 5, bin le, true 1, label 4, stack 4
		for i = 1 to 2 do break => num 1, num 2, jump 3, label 1, stack 6, jump 4, label 2, stack 6, local 4, num 1, bin add, putl 4, label 3, stack 6, local 4, local 5, bin le, true 1, label 4, stack 4
		for i = 1 to 2 do for k = i to 3 do a := k => num 1, num 2, jump 3, label 1, stack 6, local 4, num 3, jump 7, label 5, stack 8, local 6, putl 2, label 6, stack 8, local 6, num 1, bin add, putl 6, label 7, stack 8, local 6, local 7, bin le, true 5, label 8, stack 6, label 2, stack 6, local 4, num 1, bin add, putl 4, label 3, stack 6, local 4, local 5, bin le, true 1, label 4, stack 4
	`)
	// The labels of from and to come first.
	checkCommands(t, "for i = (a -> 1, 2) to valof { resultis b } do { let x = i ; break } => local 2, false 1, num 1, jump 2, label 1, stack 4, num 2, label 2, stack 5, local 3, result 3, num 0, result 3, label 3, take 5, jump 6, label 4, stack 6, local 4, jump 7, stack 6, label 5, stack 6, local 4, num 1, bin add, putl 4, label 6, stack 6, local 4, local 5, bin le, true 4, label 7, stack 4")
	checkCommands(t, "for i = 1 to 2 by #80000000 do { } => num 1, num 2, jump 3, label 1, stack 6, label 2, stack 6, local 4, num -2147483648, bin add, putl 4, label 3, stack 6, local 4, local 5, bin ge, true 1, label 4, stack 4")
}

// Behind an inner loop, break and loop belong to the outer one again; within a valof and a switch they belong to what is around.
func TestJumpsOutOfLoops(t *testing.T) {
	checkCommands(t, `
		while a do { { break } repeat ; break ; loop } => label 1, stack 4, local 2, false 2, label 3, stack 4, jump 4, jump 3, label 4, stack 4, jump 2, jump 1, jump 1, label 2, stack 4
		{ loop repeatwhile a ; loop } repeatuntil b => label 1, stack 4, label 4, stack 4, jump 6, label 6, stack 4, local 2, true 4, label 5, stack 4, jump 3, label 3, stack 4, local 3, false 1, label 2, stack 4
		{ while a do break ; for i = 1 to 2 do { } ; break } repeat => label 1, stack 4, label 3, stack 4, local 2, false 4, jump 4, jump 3, label 4, stack 4, num 1, num 2, jump 7, label 5, stack 6, label 6, stack 6, local 4, num 1, bin add, putl 4, label 7, stack 6, local 4, local 5, bin le, true 5, label 8, stack 4, jump 2, jump 1, label 2, stack 4
		while a do { b := valof { { break } repeat ; resultis 1 } ; break } => label 1, stack 4, local 2, false 2, label 4, stack 4, jump 5, jump 4, label 5, stack 4, num 1, result 3, num 0, result 3, label 3, take 4, putl 3, jump 2, jump 1, label 2, stack 4
		while a do switchon b into { case 1 : break ; case 2 : loop ; case 3 : endcase } => label 1, stack 4, local 2, false 2, local 3, switch 6 3, case 1 3, case 2 4, case 3 5, label 3, stack 4, jump 2, label 4, stack 4, jump 1, label 5, stack 4, jump 6, label 6, stack 4, jump 1, label 2, stack 4
		switchon b into { case 1 : while a do endcase } => local 3, switch 2 1, case 1 1, label 1, stack 4, label 3, stack 4, local 2, false 4, jump 2, jump 3, label 4, stack 4, label 2, stack 4
	`)
	checkExprs(t, "valof { while a do { if b do resultis 1 ; break } ; resultis 2 } => label 2, stack 4, local 2, false 3, local 3, false 4, num 1, result 1, label 4, stack 4, jump 3, jump 2, label 3, stack 4, num 2, result 1, num 0, result 1, label 1, take 4")
}

func TestSwitches(t *testing.T) {
	checkCommands(t, `
		switchon a into { } => local 2, switch 1 0, label 1, stack 4
		switchon a into { b := 1 } => local 2, switch 1 0, num 1, putl 3, label 1, stack 4
		switchon a into { endcase } => local 2, switch 1 0, jump 1, label 1, stack 4
		switchon a into { case 7 : b := 1 } => local 2, switch 2 1, case 7 1, label 1, stack 4, num 1, putl 3, label 2, stack 4
		switchon a into { default : b := 1 } => local 2, switch 1 0, label 1, stack 4, num 1, putl 3, label 2, stack 4
		switchon a into { case 7 : endcase ; default : endcase } => local 2, switch 2 1, case 7 1, label 1, stack 4, jump 3, label 2, stack 4, jump 3, label 3, stack 4
		switchon a into { default : endcase ; case 7 : endcase } => local 2, switch 2 1, case 7 1, label 2, stack 4, jump 3, label 1, stack 4, jump 3, label 3, stack 4
		switchon a into { case 1 : b := 1 ; default : b := 2 ; case - 1 : b := 3 ; endcase } => local 2, switch 3 2, case 1 1, case -1 2, label 1, stack 4, num 1, putl 3, label 3, stack 4, num 2, putl 3, label 2, stack 4, num 3, putl 3, jump 4, label 4, stack 4
		switchon a into { case 1 : case 2 : default : case 3 : b := 1 } => local 2, switch 4 3, case 1 1, case 2 2, case 3 3, label 1, stack 4, label 2, stack 4, label 4, stack 4, label 3, stack 4, num 1, putl 3, label 5, stack 4
		switchon a into { case m : case low + 1 : case 'a' : case true : case 1 << 31 : } => local 2, switch 6 5, case 5 1, case -2 2, case 97 3, case -1 4, case -2147483648 5, label 1, stack 4, label 2, stack 4, label 3, stack 4, label 4, stack 4, label 5, stack 4, label 6, stack 4
		switchon (a -> 1, 2) into { case 1 : } => local 2, false 1, num 1, jump 2, label 1, stack 4, num 2, label 2, stack 5, switch 4 1, case 1 3, label 3, stack 4, label 4, stack 4
	`)
}

// Labels of the block of a switch come behind those of the switch; locals are there at the cases behind them.
func TestBlocksOfSwitches(t *testing.T) {
	checkCommands(t, `
		switchon a into { let x = 1 ; case 1 : b := x } => local 2, switch 2 1, case 1 1, num 1, label 1, stack 5, local 4, putl 3, stack 4, label 2, stack 4
		switchon a into { case 1 : l : goto l ; case 2 : } => local 2, switch 3 2, case 1 1, case 2 2, label 1, stack 4, label 4, stack 4, jump 4, label 2, stack 4, label 3, stack 4
		switchon a into { l : case 1 : k : default : goto k ; goto l } => local 2, switch 2 1, case 1 1, label 4, stack 4, label 1, stack 4, label 5, stack 4, label 2, stack 4, jump 5, jump 4, label 3, stack 4
		switchon a into { case 1 : { let x = 1 ; endcase } ; case 2 : b := 2 } => local 2, switch 3 2, case 1 1, case 2 2, label 1, stack 4, num 1, jump 3, stack 4, label 2, stack 4, num 2, putl 3, label 3, stack 4
	`)
}

// A switch within a switch has labels, cases and an end of its own; behind it those of the outer one go on.
func TestSwitchesInSwitches(t *testing.T) {
	checkCommands(t, `
		switchon a into { case 1 : switchon b into { case 5 : endcase ; default : } ; endcase ; case 2 : endcase ; default : endcase } => local 2, switch 3 2, case 1 1, case 2 2, label 1, stack 4, local 3, switch 6 1, case 5 5, label 5, stack 4, jump 7, label 6, stack 4, label 7, stack 4, jump 4, label 2, stack 4, jump 4, label 3, stack 4, jump 4, label 4, stack 4
		switchon a into { default : switchon b into { case 2 : endcase ; case 1 : } ; case 1 : } => local 2, switch 2 1, case 1 1, label 2, stack 4, local 3, switch 6 2, case 2 4, case 1 5, label 4, stack 4, jump 6, label 5, stack 4, label 6, stack 4, label 1, stack 4, label 3, stack 4
		switchon a into { case 1 : if b do switchon b into { default : } ; default : } => local 2, switch 2 1, case 1 1, label 1, stack 4, local 3, false 4, local 3, switch 5 0, label 5, stack 4, label 6, stack 4, label 4, stack 4, label 2, stack 4, label 3, stack 4
		switchon a into { case 1 : b := valof { switchon b into { case 2 : endcase } ; resultis 1 } ; endcase ; case 3 : } => local 2, switch 3 2, case 1 1, case 3 2, label 1, stack 4, local 3, switch 6 1, case 2 5, label 5, stack 4, jump 6, label 6, stack 4, num 1, result 4, num 0, result 4, label 4, take 4, putl 3, jump 3, label 2, stack 4, label 3, stack 4
	`)
}

func TestReturnsAndFinish(t *testing.T) {
	checkCommands(t, `
		return              => back
		{ return ; return } => back, back
		finish              => stack 6, num 0, global 4, call 4, stack 4
		{ let x = 1 ; finish ; return } => num 1, stack 7, num 0, global 4, call 5, stack 5, back, stack 4
		if a do return      => local 2, false 1, back, label 1, stack 4
		{ }                 =>
		{ ; ; }             =>
	`)
	checkCode(t, "let f() be", "enter 1 0, back")
	// finish is the given stop, whatever a local is called.
	checkCode(t, "let f(stop) be finish", "enter 1 1, stack 5, num 0, global 4, call 3, stack 3, back")
}

// Dead code has its depth as if it were run.
func TestDeadCode(t *testing.T) {
	checkCommands(t, `
		{ return ; a := b ; p() }          => back, local 3, putl 2, stack 6, proc 3, call 4, stack 4
		{ return ; { let x = a ; return ; b := x } ; b := 1 } => back, local 2, back, local 4, putl 3, stack 4, num 1, putl 3
		{ finish ; let v = vec 3 ; a := v } => stack 6, num 0, global 4, call 4, stack 4, addrl 5, stack 9, local 4, putl 2, stack 4
		{ goto l ; let x = 1 ; l : a := x } => jump 1, num 1, label 1, stack 5, local 4, putl 2, stack 4
		while a do { break ; for i = 1 to 2 do loop ; return } => label 1, stack 4, local 2, false 2, jump 2, num 1, num 2, jump 5, label 3, stack 6, jump 4, label 4, stack 6, local 4, num 1, bin add, putl 4, label 5, stack 6, local 4, local 5, bin le, true 3, label 6, stack 4, back, jump 1, label 2, stack 4
	`)
	checkExprs(t, "1 + valof { resultis a ; a := b ; resultis 2 ; { let x = 1 } } => num 1, local 2, result 1, local 3, putl 2, num 2, result 1, num 1, stack 5, num 0, result 1, label 1, take 5, bin add")
}

func TestLocals(t *testing.T) {
	checkCommands(t, `
		{ let x = 1 }       => num 1, stack 4
		{ let x = 1 ; a := x } => num 1, local 4, putl 2, stack 4
		{ let x, y, z = 1, a, 3 ; a := z ; x := y } => num 1, local 2, num 3, local 6, putl 2, local 5, putl 4, stack 4
		{ let x = 1 ; let y = x ; a := y } => num 1, local 4, local 5, putl 2, stack 4
		{ { let x = 1 ; x := 2 } ; let y = 3 ; y := 4 } => num 1, num 2, putl 4, stack 4, num 3, num 4, putl 4, stack 4
		{ let x = 1 ; { let y = 2 ; y := x } ; x := 5 } => num 1, num 2, local 4, putl 5, stack 5, num 5, putl 4, stack 4
		{ a := 1 ; { b := 2 } } => num 1, putl 2, num 2, putl 3
		{ let x = valof { let y = 1 ; resultis y } ; a := x } => num 1, local 4, result 1, stack 4, num 0, result 1, label 1, take 4, local 4, putl 2, stack 4
		{ let x, y = 1, valof { let z = 2 ; resultis z } ; a := y } => num 1, num 2, local 5, result 1, stack 5, num 0, result 1, label 1, take 5, local 5, putl 2, stack 4
		{ let c, d, e, i, j, k, l, n = 1, 2, 3, 4, 5, 6, 7, 8 ; n := c } => num 1, num 2, num 3, num 4, num 5, num 6, num 7, num 8, local 4, putl 11, stack 4
	`)
}

func TestVectors(t *testing.T) {
	checkCommands(t, `
		{ let v = vec 0 ; a := v }    => addrl 5, stack 6, local 4, putl 2, stack 4
		{ let v = vec 3 ; v ! 1 := a } => addrl 5, stack 9, local 2, local 4, num 1, bin add, store, stack 4
		{ let v = vec m - 4 ; let w = vec m ; a := w ; b := v } => addrl 5, stack 7, addrl 8, stack 14, local 7, putl 2, local 4, putl 3, stack 4
		{ let x = 1 ; let v = vec 2 ; let y = v ; x := y } => num 1, addrl 6, stack 9, local 5, local 9, putl 4, stack 4
		{ { let v = vec 9 } ; let v = vec 1 ; a := v } => addrl 5, stack 15, stack 4, addrl 5, stack 7, local 4, putl 2, stack 4
	`)
}

func TestTheGreatestVector(t *testing.T) {
	size, behind := strconv.Itoa(api.MaxVec), strconv.Itoa(4+api.MaxVec+2)
	checkCommands(t, "{ let v = vec "+size+" ; a := v } => addrl 5, stack "+behind+", local 4, putl 2, stack 4")
	checkCommands(t, "{ a := 1 ; { let v = vec "+size+" } ; let x = 2 } => num 1, putl 2, addrl 5, stack "+behind+", stack 4, num 2, stack 4")
}

// Labels of a block are numbered at its beginning, in order, also behind other labels; those of blocks within when these are come to.
func TestLabelsOfBlocks(t *testing.T) {
	checkCommands(t, `
		{ l : goto l }      => label 1, stack 4, jump 1
		{ goto k ; if a do { } ; l : ; k : goto l } => jump 2, local 2, false 3, label 3, stack 4, label 1, stack 4, label 2, stack 4, jump 1
		{ l : k : n : a := b ; goto n ; goto k ; goto l } => label 1, stack 4, label 2, stack 4, label 3, stack 4, local 3, putl 2, jump 3, jump 2, jump 1
		{ l : if a do { l : goto l } ; goto l } => label 1, stack 4, local 2, false 2, label 3, stack 4, jump 3, label 2, stack 4, jump 1
		{ l : { k : goto l ; goto k } ; n : goto n } => label 1, stack 4, label 3, stack 4, jump 1, jump 3, label 2, stack 4, jump 2
		{ { goto l ; l : } ; l : goto l } => jump 2, label 2, stack 4, label 1, stack 4, jump 1
		{ while a do { l : goto l } ; l : } => label 2, stack 4, local 2, false 3, label 4, stack 4, jump 4, jump 2, label 3, stack 4, label 1, stack 4
		{ l : { k : { l : goto k } ; goto l } } => label 1, stack 4, label 2, stack 4, label 3, stack 4, jump 2, jump 1
	`)
	// A label has the depth of its place: jumps into and out of locals only go to where the label's block is.
	checkCommands(t, `
		{ l : ; let x = 1 ; k : a := x ; goto k ; goto l } => label 1, stack 4, num 1, label 2, stack 5, local 4, putl 2, jump 2, jump 1, stack 4
		{ l : { let v = vec 4 ; goto l } } => label 1, stack 4, addrl 5, stack 10, jump 1, stack 4
	`)
	// A label may have the name of a local, a procedure or a static.
	checkCommands(t, "{ a : f : s : goto a ; goto f ; goto s ; a := s } => label 1, stack 4, label 2, stack 4, label 3, stack 4, jump 1, jump 2, jump 3, static 0, putl 2")
	// A label in a valof may have the name of one around it.
	checkCommands(t, "{ l : a := valof { l : goto l } ; goto l } => label 1, stack 4, label 3, stack 4, jump 3, num 0, result 2, label 2, take 4, putl 2, jump 1")
}
