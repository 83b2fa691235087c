package mean_test

import (
	"math/rand"
	"slices"
	"strconv"
	"strings"
	"testing"

	"bluebell/api"
	"bluebell/mean"
	"bluebell/word"
)

// P5.2

func TestValue(t *testing.T) {
	pairs(`
		5 => 5 5 5
		40000 => -25536 40000 40000
		65536 => 0 65536 65536
		#ffffffff => -1 -1 -1
		2147483647 => -1 -1 2147483647
		#80000000 => 0 0 -2147483648
		true => -1 -1 -1
		false => 0 0 0
		1 + 2 * 3 => 7 7 7
		- 7 / 2 => -3 -3 -3
		- 7 rem 2 => -1 -1 -1
		32767 + 1 => -32768 32768 32768
		- 1 >> 12 => 15 4095 1048575
		1 << 16 => 0 65536 65536
		~ 5 => -6 -6 -6
		3 < 4 => -1 -1 -1
		3 = 4 xor 5 => 5 5 5
		40000 > 0 => 0 -1 -1
		true -> 4, 1 / 0 => 4 4 4
		false -> ?, 5 => 5 5 5
		false -> ! 1, 5 => 5 5 5
		65536 -> 1, 2 => 2 1 1
		slct(3, 4, 5) => 5251 5251 5251
		slct(0, 0, 255) => -1024 261120 261120
		slct(65537 - 65536, 0, 0) => 1 1 1
		slct(true -> 1, 1 / 0, 0, 0) => 1 1 1
		true -> 1, slct(1, 1, 1) of 5 => 1 1 1
		true -> 1, @ ! 5 => 1 1 1
		true -> 1, @(5 ! 5) => 1 1 1`, func(src, want string) {
		checkValues(t, mustExpr(t, src), want)
	})
	checkValues(t, chain(api.MaxNest), "-1 -1 -1")
	checkValues(t, node(api.EBin, num(1)), "")
}

// checkValues takes an expression and its numbers by words of 16, 24 and 32 bits, or none if it is of no form.
func checkValues(t *testing.T, n api.Node, want string) {
	t.Helper()
	for i, f := range forms() {
		v, err := mean.Value(n, f)
		if want == "" && (v != 0 || err != api.ErrForm) || want != "" && (strconv.Itoa(v) != strings.Fields(want)[i/2] || err != api.OK) {
			t.Errorf("Value(%.200v, %v) = %d, %d; want %s", n, f, v, err, want)
		}
	}
}

func TestValueOfOperators(t *testing.T) {
	random := rand.New(rand.NewSource(1))
	for range 3000 {
		op := api.Mul + random.Intn(api.Ge-api.Mul+1)
		a, b := int(int32(random.Uint32()))>>random.Intn(32), int(int32(random.Uint32()))>>random.Intn(32)
		for _, f := range forms() {
			want, wantErr := word.Apply(op, a, b, f.Bits)
			v, err := mean.Value(api.Node{Op: api.EBin, N: op, L: []api.Node{num(a), num(b)}}, f)
			if v != want || err != wantErr {
				t.Fatalf("%d of %d and %d by %v: %d, %d; want %d, %d", op, a, b, f, v, err, want, wantErr)
			}
		}
	}
}

func TestValueErrors(t *testing.T) {
	// Each error with those that come behind it.
	for want, lines := range map[api.Errno]string{
		api.ErrNone: `
			a
			a + 1 / 0
			1 / 0 + a
			f(1)
			1 + 2(3)
			valof { }
			valof { resultis 1 }
			"abc"
			"abc" % 1
			table(1)
			true -> 1, a
			@ a
			@ f(1)
			slct(a, 1, 1)
			slct(17, 1, "")
			table(1) of 5
			- ! @ (1 ! table(1))
			slct(1, 0, 0) of "a"`,
		api.ErrZero: `
			1 / 0
			1 rem 0
			(1 / 0) + ?
			(1 / 0) + (! 1)
			true -> 1 / 0, 5
			(1 / 0) ! 5
			- (1 rem (2 - 2))
			@((1 / 0) ! 5)
			slct(1, 1, 1) of (1 / 0)`,
		api.ErrState: `
			?
			? + 1
			1 + ?
			? = ?
			- ?
			~ ?
			! 1
			! ?
			1 ! 2
			? ! 1
			1 % 2
			? % 1
			@ ! 1
			@(1 ! 2)
			@(? ! 2)
			@ ! ?
			? -> 1, 2
			true -> ?, 2
			false -> 1, ?
			slct(1, 1, 1) of 5
			5 of 5
			(1 + 1) of ?
			(! 1) + (1 / 0)
			(? + 1) / 0
			@ 5
			@ (1 + 2)
			@ ?
			@ @ ! 1
			@ (1 % 2)
			@ (1 -> 1, 2)
			true -> 1, @ 5
			slct(17, 0, 0)
			slct(0, 17, 0)
			slct(8, 9, 0)
			slct(1, 1, 256)
			slct(- 1, 1, 1)
			slct(1 / 0, 1, 1)
			slct(?, 1, 1)
			slct(! 1, 1, 1)
			slct(1, 1, 1 % 1)
			slct(1, slct(1, 1, 1) of 5, 1)
			true -> 1, slct(17, 0, 0)
			true -> 1, slct(1 / 0, 0, 0)
			1 / 0 + slct(17, 0, 0)
			17 of 5
			(1 / 0) of 5
			? of 5
			(- 1) of 5
			(! 1) of 5
			true -> 1, 17 of 5
			true -> 1, ? of 5
			1 / 0 + (17 of 5)
			1 / 0 + @ 5`,
	} {
		eachLine(lines, func(src string) {
			n := mustExpr(t, src)
			for _, f := range forms() {
				if v, err := mean.Value(n, f); v != 0 || err != want {
					t.Errorf("Value(%s, %v) = %d, %d; want %d", src, f, v, err, want)
				}
			}
			if v, err := mean.Value(n, api.Form{Bits: 17}); v != 0 || err != api.ErrForm {
				t.Errorf("Value(%s) by 17 bits = %d, %d", src, v, err)
			}
		})
	}
	many := num(1)
	for range 14 { // 2^15 - 1 nodes
		many = api.Node{Op: api.EBin, N: api.Add, L: []api.Node{many, many}}
	}
	noForm := api.Form{Bits: 8}
	for _, x := range []struct {
		n    api.Node
		f    api.Form
		want api.Errno
	}{
		{api.Node{}, form16, api.ErrForm}, {api.Node{Op: 999}, noForm, api.ErrForm}, {node(api.CNull), form16, api.ErrForm}, {node(api.EBin, name("a")), form16, api.ErrForm}, {num(1 << 31), form16, api.ErrForm}, {api.Node{Op: api.EUn, N: api.Add, L: []api.Node{num(1)}}, form16, api.ErrForm},
		{many, noForm, api.ErrLimit}, {node(api.ECall, slices.Repeat([]api.Node{name("a")}, api.MaxArgs+2)...), noForm, api.ErrLimit}, {node(api.ETable, slices.Repeat([]api.Node{num(1)}, api.MaxString+1)...), form16, api.ErrLimit},
		{chain(api.MaxNest + 1), noForm, api.ErrDeep}, {chain(api.MaxNodes), form16, api.ErrDeep}, {chain(65000), form16, api.ErrLimit}, {chain(api.MaxNest), noForm, api.ErrForm}, {name("a"), noForm, api.ErrForm}, {node(api.EAny), noForm, api.ErrForm},
	} {
		if v, err := mean.Value(x.n, x.f); v != 0 || err != x.want {
			t.Errorf("Value(%.100v, %v) = %d, %d; want %d", x.n, x.f, v, err, x.want)
		}
	}
}
