package ocode_test

import (
	"math"
	"slices"
	"strings"
	"testing"

	"bluebell/api"
	"bluebell/ocode"
)

// P6.1

func TestFine(t *testing.T) {
	checkCode(t, api.OK, "nothing", api.Code{})
	checkCode(t, api.OK, "empty lists", api.Code{Data: []api.Data{}, Ops: []api.Op{}, Globals: []api.Entry{}})
	checkCode(t, api.OK, "areas alone", api.Code{Data: []api.Data{text("a"), words(3)}})
	checkCode(t, api.OK, "example", example())
	checkCodes(t, api.OK, "enter 1 0, back", "enter 1 8, back", "enter 1, back, enter 2, back", "enter 1, num 1, return, enter 2 3, jump 1, label 1, stack 5, back")
}

// TestEveryInstruction has each one with the least and the greatest numbers that it may have where it stands. The depth is 4 at first.
func TestEveryInstruction(t *testing.T) {
	checkBodies(t, api.OK,
		"num 0, num -2147483648, num 2147483647, return",
		"local 2, local 3, local 4, local 5, return",
		"putl 2, back", "putl 3, back", "num 1, putl 4, back", "putl 2, putl 2, back",
		"addrl 2, addrl 4000, back",
		"global 0, global 199, putg 0, putg 199, addrg 0, addrg 199, back",
		"static 0, static 1, puts 0, puts 1, addrs 0, addrs 1, back",
		"proc 1, back",
		"load, putl 2, load, back",
		"store, back",
		"getb, back",
		"num 0, putb, back",
		"bin mul, back", "bin ge, back", "un neg, un not, back", "putl 2, un not, back",
		"stack 2, back", "stack 4, back", "stack 2006, back", "label 1, stack 4000, back",
		"jump 1, label 1, stack 2, jump 1",
		"true 1, label 1, stack 2, back", "false 1, label 1, stack 2, back",
		"proc 1, call 2, back", "stack 6, num 1, call 4, back", "stack 7, num 1, call 5, back",
		"return", "back", "return, return",
		"result 1, label 1, take 1, back", "result 1, label 1, take 3999, back",
		"switch 1 0, label 1, stack 2, back", "switch 1 1, case 5 1, label 1, stack 2, back", "switch 1 3, case 5 2, case 5 1, case -2147483648 2, label 2, label 1, stack 2, back",
	)
}

func TestLimits(t *testing.T) {
	long := func(n int) api.Code {
		return finished(slices.Concat(ops("enter 1 2"), repeated(n-2, api.Op{Op: api.OLabel, N: 1}), ops("back")))
	}
	many := finished(slices.Concat(ops("enter 1 2"), repeated(api.MaxOps-2, api.Op{Op: api.OStack, N: 4}), ops("back")))
	checkCode(t, api.OK, "as many instructions as may be", many)
	many.Ops = append(many.Ops, api.Op{Op: api.OBack})
	checkCode(t, api.ErrLimit, "one more", many)
	checkCode(t, api.ErrLimit, "more, and a label twice", long(api.MaxOps+1))

	checkCode(t, api.OK, "2000 areas", api.Code{Data: slices.Repeat([]api.Data{words(1)}, 2000)})
	checkCode(t, api.ErrLimit, "2001 areas", api.Code{Data: slices.Repeat([]api.Data{words(1)}, 2001)})
	checkCode(t, api.ErrLimit, "2001 areas of nothing", api.Code{Data: make([]api.Data, 2001)})

	checkCode(t, api.OK, "as many procedures as may be", finished(procs(api.MaxProcs)))
	checkCode(t, api.ErrLimit, "one more", finished(procs(api.MaxProcs+1)))
	checkCode(t, api.ErrLimit, "one more by Procs", api.Code{Procs: api.MaxProcs + 1})
	checkCode(t, api.ErrLimit, "one more by OEnter", api.Code{Ops: procs(api.MaxProcs + 1), Procs: api.MaxProcs})
	checkCode(t, api.ErrCode, "no procedure", api.Code{Procs: api.MaxProcs})

	inRow := func(n int) api.Code { return finished(slices.Concat(ops("enter 1"), labels(n), ops("stack 2, back"))) }
	checkCode(t, api.OK, "20000 labels", inRow(20000))
	checkCode(t, api.OK, "the label 20000", code("enter 1, label 20000, stack 2, back"))
	checkCode(t, api.ErrLimit, "20001 labels", inRow(20001))
	checkCode(t, api.ErrLimit, "the label 20001", code("enter 1, label 20001, stack 2, back"))
	checkCode(t, api.ErrLimit, "20001 labels by Labels", api.Code{Labels: 20001})
	checkCode(t, api.ErrCode, "no label", api.Code{Labels: 20000})
}

func TestLimitOfWords(t *testing.T) {
	hundred := text(strings.Repeat("a", 100)) // 51 words by 16 bits
	texts := slices.Repeat([]api.Data{hundred}, 152)
	for _, x := range []struct {
		l    []api.Data
		want api.Errno
	}{
		{[]api.Data{words(api.StaticSize)}, api.OK},
		{[]api.Data{words(api.StaticSize + 1)}, api.ErrLimit},
		{[]api.Data{words(api.StaticSize - 1), words(1)}, api.OK},
		{[]api.Data{words(api.StaticSize - 1), words(2)}, api.ErrLimit},
		{slices.Concat(texts, []api.Data{words(48)}), api.OK},
		{slices.Concat(texts, []api.Data{words(49)}), api.ErrLimit},
		{slices.Concat(texts, []api.Data{words(47), text("")}), api.OK},
		{slices.Concat(texts, []api.Data{words(47), text("a")}), api.OK},
		{slices.Concat(texts, []api.Data{words(47), text("ab")}), api.ErrLimit},
		{slices.Concat(texts, []api.Data{words(46), text("abc")}), api.OK},
		{slices.Concat(texts, []api.Data{words(46), text("abcd")}), api.ErrLimit},
		{[]api.Data{text(strings.Repeat("a", 2*api.StaticSize-1))}, api.ErrCode},
		{[]api.Data{text(strings.Repeat("a", 2*api.StaticSize))}, api.ErrLimit},
	} {
		checkCode(t, x.want, "areas", api.Code{Data: x.l})
	}
}

func TestWrongInstructions(t *testing.T) {
	for _, o := range []int{-1, 0, 31, math.MinInt, math.MaxInt} {
		checkCode(t, api.ErrCode, "an op that is none", finished(slices.Concat(ops("enter 1 2"), []api.Op{{Op: o}}, ops("back"))))
	}
	checkBodies(t, api.ErrCode,
		"num 2147483648, back", "num -2147483649, back", "num 9223372036854775807, back", "num -9223372036854775808, back",
		"switch 1 1, case 2147483648 1, label 1, stack 2, back", "switch 1 1, case -2147483649 1, label 1, stack 2, back",
		"local -1, back", "local 4001, back", "putl -1, back", "putl 4001, back", "addrl -1, back", "addrl 4001, back",
		"stack -1, back", "stack 4001, back", "proc 1, call -1, back", "proc 1, call 4001, back", "jump 1, label 1, stack 4001, back",
		"result 1, label 1, take -1, back", "result 1, label 1, take 4001, back",
		"global -1, back", "global 200, back", "putg -1, back", "putg 200, back", "addrg -1, back", "addrg 200, back",
		"static -1, back", "static 2, back", "puts -1, back", "puts 2, back", "addrs -1, back", "addrs 2, back",
		"proc 0, back", "proc 2, back", "proc -1, back",
		"jump 0", "jump -1", "jump 1", "true 1, back", "false 1, back", "result 1", "switch 1 0", "switch 0 0",
		"bin 0, back", "bin -1, back", "bin 18, back", "bin neg, back", "bin not, back", "un ge, back", "un mul, back", "un 0, back", "un 20, back",
		"load 1, back", "num 1, store 1, back", "getb 1, back", "num 1, putb 1, back", "return 1", "back 1", "back -1",
	)
	checkCode(t, api.ErrCode, "an area without areas", api.Code{Ops: ops("enter 1, static 0, back"), Procs: 1})
}

// TestWrongSeconds has each instruction with an M that it has not.
func TestWrongSeconds(t *testing.T) {
	whole := code("enter 1 2, num 1, local 2, putl 2, addrl 2, global 1, putg 1, addrg 1, static 1, puts 1, addrs 1, proc 1, load, store, num 1, getb, num 1, num 1, putb, num 1, num 1, bin add, un neg, " +
		"stack 5, proc 1, call 2, num 1, true 1, num 1, false 1, num 1, switch 1 1, case 1 1, label 1, stack 4, num 1, result 2, label 2, take 4, jump 1, return, back")
	checkCode(t, api.OK, "all instructions", whole)
	for i, o := range whole.Ops {
		if o.Op == api.OEnter || o.Op == api.OCase {
			continue // they may have other ones
		}
		for _, m := range []int{1, -1, math.MaxInt} {
			c := whole
			c.Ops = slices.Clone(whole.Ops)
			c.Ops[i].M += m
			checkCode(t, api.ErrCode, "an M", c)
		}
	}
	for _, m := range []string{"-1", "9", "2147483648", "-2147483649"} {
		checkCodes(t, api.ErrCode, "enter 1 "+m+", back")
	}
}

func TestWrongCases(t *testing.T) {
	behind := ", label 1, stack 2, back"
	cases := func(n int) string { return strings.Repeat(", case 1 1", n) }
	checkBodies(t, api.OK, "switch 1 2"+cases(2)+behind, "switch 1 1000"+cases(1000)+behind, "switch 1 0, num 1, back"+behind)
	checkBodies(t, api.ErrCode,
		"switch 1 2"+cases(1)+behind, "switch 1 2"+cases(3)+behind, "switch 1 0"+cases(1)+behind, "switch 1 2"+behind, "switch 1 1"+behind,
		"switch 1 1001"+cases(1001)+behind, "switch 1 -1"+behind, "switch 1 -1"+cases(1)+behind,
		"switch 1 2, case 1 1, num 1, case 1 1"+behind, "switch 1 1, num 1, case 1 1"+behind, "switch 1 1, label 2, stack 4, case 1 1"+behind,
		"case 1 1"+behind, "num 1, case 1 1"+behind, "jump 1, case 1 1"+behind,
		"switch 1 1, switch 1 1, case 1 1, case 1 1"+behind,
		"label 1, stack 4, switch 1 1", "label 1, stack 4, switch 1 2, case 1 1",
		"switch 1 1, case 1 0"+behind, "switch 1 1, case 1 2"+behind, "switch 1 1, case 1 -1"+behind, "switch 2 1, case 1 1"+behind,
	)
}

func TestWrongProcedures(t *testing.T) {
	checkCodes(t, api.ErrCode,
		"back", "num 1, enter 1, back", "label 1, stack 2, enter 1, back", "jump 1, enter 1, label 1, stack 2, back",
		"enter 2, back", "enter 0, back", "enter -1, back", "enter 2, back, enter 1, back", "enter 1, back, enter 1, back", "enter 1, back, enter 3, back", "enter 1, back, enter 3, back, enter 2, back",
		"enter 1, enter 2, back", "enter 1", "enter 1, back, enter 2",
	)
	for _, c := range []api.Code{
		{Ops: ops("enter 1, back")}, {Ops: ops("enter 1, back"), Procs: 2}, {Ops: ops("enter 1, back"), Procs: -1}, {Procs: 1}, {Procs: -1}, {Procs: math.MinInt},
		{Labels: 1}, {Labels: -1}, {Labels: math.MinInt}, {Ops: ops("enter 1, back"), Procs: 1, Labels: 1},
		{Ops: ops("enter 1, label 1, stack 2, back"), Procs: 1}, {Ops: ops("enter 1, label 1, stack 2, back"), Procs: 1, Labels: 2}, {Ops: ops("enter 1, label 2, stack 2, back"), Procs: 1, Labels: 1},
	} {
		checkCode(t, api.ErrCode, "Procs and Labels", c)
	}
}

// TestGoingOn has each instruction before an OEnter, and as the last one.
func TestGoingOn(t *testing.T) {
	ends := []string{"jump 1", "return", "back", "result 2", "switch 1 0", "switch 1 1, case 1 1", "switch 1 2, case 1 1, case 2 1"}
	goesOn := []string{"num 1", "local 2", "putl 2", "addrl 2", "global 1", "putg 1", "addrg 1", "static 1", "puts 1", "addrs 1", "proc 1", "load", "store", "getb", "putb", "bin add", "un neg", "stack 4", "true 1", "false 1", "proc 1, call 2", "jump 1, take 8", "label 3", "label 3, stack 4"}
	before := "enter 1 8, num 0, result 2, label 1, stack 8, num 0, result 2, label 2, take 8, "
	for _, src := range ends {
		checkCodes(t, api.OK, before+src, before+src+", enter 2, back")
	}
	for _, src := range goesOn {
		checkCodes(t, api.ErrCode, before+src, before+src+", enter 2, back", before+"back, enter 2, back, enter 3, "+src)
	}
}

func TestWrongLabels(t *testing.T) {
	checkCodes(t, api.OK,
		"enter 1, label 1, label 3, stack 2, jump 3", "enter 1, label 3, label 1, stack 2, jump 1, label 2, stack 3, back",
		"enter 1, jump 1, label 1, stack 2, back, enter 2, label 2, stack 2, jump 2",
	)
	checkBodies(t, api.ErrCode,
		"label 1, stack 2, label 1, stack 2, back", "label 1, label 1, stack 2, back", // twice
		"jump 2, label 1, stack 2, back", "label 1, stack 2, label 3, stack 2, jump 2", "label 1, stack 2, true 2, back", "label 1, stack 4, false 2, back", "label 1, stack 4, switch 2 0", "label 1, stack 4, result 2", // not there
		"label 1, back", "label 1", "label 1, label 2, back", "label 1, stack 2, label 2", "label 1, num 1, stack 2, back", "label 1, jump 1", "label 0, stack 2, back", "label -1, stack 2, back", "label 1, stack 2, label -1, stack 2, back", // not followed as said, or none
	)
	checkCodes(t, api.ErrCode,
		"enter 1, label 1, stack 2, back, enter 2, label 1, stack 2, back", // twice, in two procedures
		"enter 1, jump 1, enter 2, label 1, stack 2, back", "enter 1, label 1, stack 2, back, enter 2, jump 1",
		"enter 1, num 1, result 1, enter 2, back, label 1, take 2, back", "enter 1, label 1, enter 2, back",
		"enter 1 1, true 1, back, enter 2, label 1, stack 2, back", "enter 1 1, false 1, back, enter 2, label 1, stack 2, back", "enter 1 1, switch 1 0, enter 2, label 1, stack 2, back",
		"enter 1 1, switch 2 1, case 0 1, label 2, stack 2, back, enter 2, label 1, stack 2, back",
	)
}

func TestWrongNames(t *testing.T) {
	for _, s := range []string{"", "a", "A B", "\t\n*\"'", strings.Repeat("*", api.MaxString)} {
		checkCode(t, api.OK, s, api.Code{Name: s})
		checkCode(t, api.OK, s, api.Code{Data: []api.Data{text(s)}})
	}
	for _, s := range []string{"\x00", "a\r", "\x1f", "\x7f", "é", "a\xff", strings.Repeat("a", api.MaxString+1), strings.Repeat("a", 300)} {
		checkCode(t, api.ErrCode, s, api.Code{Name: s})
		checkCode(t, api.ErrCode, s, api.Code{Data: []api.Data{words(1), text(s)}})
	}
}

func TestWrongAreas(t *testing.T) {
	for _, d := range []api.Data{
		{}, {Words: []int{}}, {Text: "a"}, {Text: "a", Words: []int{1}}, {Text: "a", IsText: true, Words: []int{1}}, {IsText: true, Words: []int{1}},
		{Words: []int{2147483648}}, {Words: []int{0, -2147483649}}, {Words: []int{math.MaxInt, 0}},
	} {
		checkCode(t, api.ErrCode, "an area", api.Code{Data: []api.Data{d}})
		checkCode(t, api.ErrCode, "an area", api.Code{Data: []api.Data{words(1), d, text("a")}})
	}
	checkCode(t, api.OK, "areas", api.Code{Data: []api.Data{{Words: []int{-2147483648, 2147483647}}, {IsText: true, Words: []int{}}}})
}

func TestWrongEntries(t *testing.T) {
	c := finished(procs(3))
	for _, x := range []struct {
		l    []api.Entry
		want api.Errno
	}{
		{entries(1, 1), api.OK}, {entries(199, 3, 1, 3, 2, 1), api.OK},
		{entries(0, 1), api.ErrCode}, {entries(200, 1), api.ErrCode}, {entries(-1, 1), api.ErrCode}, {entries(math.MaxInt, 1), api.ErrCode},
		{entries(1, 0), api.ErrCode}, {entries(1, 4), api.ErrCode}, {entries(1, -1), api.ErrCode}, {entries(1, math.MinInt), api.ErrCode},
		{entries(5, 1, 6, 2, 5, 1), api.ErrCode}, {entries(5, 1, 5, 2), api.ErrCode},
	} {
		c.Globals = x.l
		checkCode(t, x.want, "entries", c)
	}
	checkCode(t, api.ErrCode, "an entry without procedures", api.Code{Globals: []api.Entry{{Global: 1, Proc: 1}}})
}

func TestWrongDepths(t *testing.T) {
	for _, src := range []string{"putl 2", "putg 1", "puts 1", "load", "un neg", "true 1", "false 1", "switch 1 0", "return", "result 2"} {
		end := ", label 1, stack 2, back, label 2, take 2, back"
		checkBodies(t, api.OK, "label 3, stack 3, "+src+before(src)+end)
		checkBodies(t, api.ErrStack, "label 3, stack 2, "+src+before(src)+end)
	}
	checkBodies(t, api.ErrStack,
		"putl 2, bin add, back", "putl 2, getb, back", "putl 2, store, back", "putb, back", "stack 3, num 1, putb, back", "stack 2, putb, back", "stack 2, store, back",
		"stack 2, bin add, back", "stack 2, getb, back",
		"stack 0, back", "stack 1, back", "label 1, stack 0, back", "label 1, stack 1, back", "back, label 1, take 0, back", "back, label 1, take 4000, back",
		"label 1, stack 4000, num 1, back", "label 1, stack 4000, local 2, back", "label 1, stack 3999, num 1, proc 1, back",
		"return, return, return, back", "return, return, return",
	)
	checkBodies(t, api.OK, "return, return, back", "label 1, stack 4000, putl 3999, num 1, back", "back, label 1, take 3999, back", "label 1, stack 4000, back", "back, take 3, back")
}

// before returns what stands between an instruction and a label.
func before(src string) string {
	switch src {
	case "putl 2", "putg 1", "puts 1", "load", "un neg", "true 1", "false 1":
		return ", back"
	}
	return ""
}

func TestWrongLocals(t *testing.T) {
	checkBodies(t, api.ErrStack,
		"local 0, back", "local 1, back", "local 4, back", "local 4000, back", "num 1, local 5, back",
		"putl 0, back", "putl 1, back", "putl 4, back", "putl 4000, back",
		"addrl 0, back", "addrl 1, back",
		"proc 1, call 0, back", "proc 1, call 1, back", "proc 1, call 3, back", "proc 1, call 4, back", "stack 6, num 1, call 5, back", "proc 1, call 4000, back",
		"call 2, back", "stack 2, call 2, back", "stack 2, call 0, back",
	)
	checkBodies(t, api.OK, "addrl 2, back", "addrl 100, back", "putl 3, back", "local 3, back", "proc 1, call 2, back", "num 1, call 2, back")
}

func TestWrongTakes(t *testing.T) {
	checkBodies(t, api.OK,
		"result 1, label 1, take 4, back", "result 1, label 2, label 1, take 4, back", "result 1, label 1, label 2, take 4, back", "back, label 1, take 4, result 1",
		"switch 2 0, label 1, take 4, result 1, label 2, stack 2, back", "switch 2 1, case 1 2, label 1, take 4, back, label 2, stack 2, back", "return, take 4, back", "jump 1, take 4, back, label 1, stack 4, back",
	)
	checkBodies(t, api.ErrStack,
		"result 1, label 1, stack 4, back", "result 1, label 1, label 2, stack 4, back", "label 1, stack 4, result 1", // a result that does not lead to one
		"jump 1, label 1, take 4, back", "true 1, back, label 1, take 4, back", "false 1, back, label 1, take 4, back", "switch 1 0, label 1, take 4, back", // jumps to one
		"switch 2 1, case 1 1, label 1, take 4, back, label 2, stack 2, back", "switch 1 1, case 1 2, label 1, take 4, back, label 2, stack 2, back", "jump 2, label 2, label 1, take 4, back", "jump 1, label 2, label 1, take 4, back",
		"take 4, back", "num 1, take 4, back", "num 1, label 1, take 4, back", "label 1, take 4, back", "num 1, label 1, label 2, label 3, take 4, back", "stack 4, take 4, back", // going on to one
		"result 1, label 1, take 4, label 2, take 4, back", "result 1, label 1, take 4, take 4, back", "jump 1, num 1, take 4, back, label 1, stack 2, back", "true 1, label 2, take 4, back, label 1, stack 2, back",
		"proc 1, call 2, label 1, take 4, back",
	)
}

func TestFarStacks(t *testing.T) {
	// The depth is 4; MaxVec and the two of the link are above it.
	checkBodies(t, api.OK, "stack 2006, back", "back, stack 2006, back", "label 1, stack 2007, back", "label 1, label 2, stack 4000, back", "label 1, stack 2000, stack 4000, back")
	checkBodies(t, api.ErrStack, "stack 2007, back", "stack 4000, back", "back, stack 2007, back", "label 1, stack 4, stack 2007, back", "num 1, stack 2008, back", "return, stack 2006, back")
}

// TestDeadCode counts depths from those before, by the table.
func TestDeadCode(t *testing.T) {
	checkBodies(t, api.OK, "back, local 3, return", "return, local 2, return", "jump 1, local 3, label 1, stack 2, back", "result 1, local 2, return, label 1, take 4, back", "return, return, jump 1, label 1, stack 2, back")
	checkBodies(t, api.ErrStack, "back, local 4, return", "return, local 3, return", "jump 1, local 4, label 1, stack 2, back", "result 1, local 3, return, label 1, take 4, back")
}

func TestOrderOfErrors(t *testing.T) {
	tooMany := api.MaxProcs + 1
	for _, x := range []struct {
		want   api.Errno
		change func(c *api.Code)
	}{
		{api.OK, func(c *api.Code) {}},
		{api.ErrStack, func(c *api.Code) { c.Ops[1].N = 0 }},
		{api.ErrCode, func(c *api.Code) { c.Ops[1].N = 0; c.Ops[len(c.Ops)-2].M = 1 }},
		{api.ErrCode, func(c *api.Code) { c.Ops[1].N = 0; c.Globals[2].Global = 0 }},
		{api.ErrCode, func(c *api.Code) { c.Ops[1].N = 0; c.Data[2].Text = "\x00" }},
		{api.ErrCode, func(c *api.Code) { c.Ops[1].N = 0; c.Name = "\x00" }},
		{api.ErrCode, func(c *api.Code) { c.Ops[1].N = 0; c.Labels++ }},
		{api.ErrLimit, func(c *api.Code) { c.Ops[1].N = 0; c.Procs = tooMany }},
		{api.ErrLimit, func(c *api.Code) { c.Ops[1].Op = 0; c.Procs = tooMany }},
		{api.ErrLimit, func(c *api.Code) { c.Name = "\x00"; c.Labels = 20001 }},
		{api.ErrLimit, func(c *api.Code) { c.Data[0].Words = []int{1}; c.Data[1].Words = make([]int, api.StaticSize) }},
		{api.ErrLimit, func(c *api.Code) { c.Ops[0].M = 9; c.Data = make([]api.Data, 2001) }},
		{api.ErrLimit, func(c *api.Code) { c.Ops = append(c.Ops, make([]api.Op, api.MaxOps)...) }},
	} {
		c := example()
		x.change(&c)
		checkCode(t, x.want, "changed code", c)
	}
}

// TestErrorsOfCheck has the functions with code tell Check's error first, and nothing else with it.
func TestErrorsOfCheck(t *testing.T) {
	for _, c := range []api.Code{{Procs: api.MaxProcs + 1}, {Procs: 1}, body("local 1, back"), body("jump 1"), {Data: make([]api.Data, 2001)}} {
		want := ocode.Check(c)
		if want == api.OK {
			t.Fatal("no error")
		}
		if s, err := ocode.Text(c); s != "" || err != want {
			t.Errorf("Text: %q, %d; want %d", s, err, want)
		}
		if l, err := ocode.Depths(c); len(l) != 0 || err != want {
			t.Errorf("Depths: %v, %d; want %d", l, err, want)
		}
		if l, err := ocode.Room(c); len(l) != 0 || err != want {
			t.Errorf("Room: %v, %d; want %d", l, err, want)
		}
		if l, err := ocode.Jumps(c); len(l) != 0 || err != want {
			t.Errorf("Jumps: %v, %d; want %d", l, err, want)
		}
		if r, err := ocode.Renumber(c); !ocode.Same(r, api.Code{}) || err != want {
			t.Errorf("Renumber: %v, %d; want %d", r, err, want)
		}
		for _, f := range append(forms(), wrongForms()...) {
			if l, end, err := ocode.Layout(c, f); len(l) != 0 || end != 0 || err != want {
				t.Errorf("Layout: %v, %d, %d; want %d", l, end, err, want)
			}
		}
	}
}

func TestSame(t *testing.T) {
	if !ocode.Same(example(), example()) || !ocode.Same(api.Code{}, api.Code{}) {
		t.Error("code is not the same as itself")
	}
	empty := api.Code{Data: []api.Data{}, Ops: []api.Op{}, Globals: []api.Entry{}}
	if !ocode.Same(empty, api.Code{}) || !ocode.Same(api.Code{}, empty) {
		t.Error("an empty list and nil are not the same")
	}
	if !ocode.Same(api.Code{Data: []api.Data{{Words: []int{}}}}, api.Code{Data: []api.Data{{}}}) {
		t.Error("an area's empty list and nil are not the same")
	}
	for i, change := range []func(c *api.Code){
		func(c *api.Code) { c.Name = "another" }, func(c *api.Code) { c.Procs++ }, func(c *api.Code) { c.Labels-- },
		func(c *api.Code) { c.Data[0].Text = "a" }, func(c *api.Code) { c.Data[2].IsText = false }, func(c *api.Code) { c.Data[1].Words[2]++ }, func(c *api.Code) { c.Data[1].Words = c.Data[1].Words[:2] },
		func(c *api.Code) { c.Data[2].Words = []int{0} }, func(c *api.Code) { c.Data = c.Data[:2] }, func(c *api.Code) { c.Data = nil },
		func(c *api.Code) { c.Globals[2].Global++ }, func(c *api.Code) { c.Globals[0].Proc++ }, func(c *api.Code) { c.Globals = c.Globals[:2] }, func(c *api.Code) { c.Globals[0], c.Globals[1] = c.Globals[1], c.Globals[0] },
		func(c *api.Code) { c.Ops[3].Op++ }, func(c *api.Code) { c.Ops[5].N++ }, func(c *api.Code) { c.Ops[0].M++ }, func(c *api.Code) { c.Ops = c.Ops[:len(c.Ops)-1] }, func(c *api.Code) { c.Ops = nil },
	} {
		c := example()
		change(&c)
		if ocode.Same(c, example()) || ocode.Same(example(), c) || !ocode.Same(c, c) {
			t.Errorf("change %d", i)
		}
	}
}
