package ocode_test

import (
	"math/rand"
	"slices"
	"strconv"
	"strings"
	"testing"

	"bluebell/api"
	"bluebell/ocode"
)

const rounds = 4000

// TestMakerMakesValidCode holds the test's own means: by the model, too, what is made is valid.
func TestMakerMakesValidCode(t *testing.T) {
	m := newMaker(6)
	seen := map[int]int{}
	for range rounds {
		c := m.code()
		if err := modelCheck(c); err != api.OK {
			t.Fatalf("%v: %d", c, err)
		}
		checkCode(t, api.OK, "made code", c)
		for _, o := range c.Ops {
			seen[o.Op]++
		}
	}
	for op := api.ONum; op <= api.OCase; op++ {
		if seen[op] < 300 {
			t.Errorf("only %d instructions with the op %d", seen[op], op)
		}
	}
}

func TestCheckIsAsTheModel(t *testing.T) {
	m := newMaker(61)
	seen := map[api.Errno]int{}
	for range 5 * rounds {
		c := m.changed(m.code())
		if m.Intn(4) == 0 {
			c = m.changed(c)
		}
		want := modelCheck(c)
		seen[want]++
		if err := ocode.Check(c); err != want {
			t.Fatalf("Check(%v) = %d; want %d", c, err, want)
		}
	}
	for _, err := range []api.Errno{api.OK, api.ErrCode, api.ErrStack} {
		if seen[err] < rounds/3 {
			t.Errorf("only %d times %d", seen[err], err)
		}
	}
}

func TestDepthsRoomAndJumpsAreAsTheModels(t *testing.T) {
	m := newMaker(62)
	for range rounds {
		c := m.code()
		want, _ := modelDepths(c)
		if l, err := ocode.Depths(c); !slices.Equal(l, want) || err != api.OK {
			t.Fatalf("Depths(%v) = %v, %d; want %v", c, l, err, want)
		}
		if l, err := ocode.Room(c); !slices.Equal(l, modelRoom(c, want)) || err != api.OK {
			t.Fatalf("Room(%v) = %v, %d; want %v", c, l, err, modelRoom(c, want))
		}
		if l, err := ocode.Jumps(c); !slices.Equal(l, modelJumps(c)) || err != api.OK {
			t.Fatalf("Jumps(%v) = %v, %d; want %v", c, l, err, modelJumps(c))
		}
	}
}

func mustText(t *testing.T, c api.Code) string {
	t.Helper()
	s, err := ocode.Text(c)
	if err != api.OK {
		t.Fatalf("Text(%v): %d", c, err)
	}
	return s
}

func mustRenumber(t *testing.T, c api.Code) api.Code {
	t.Helper()
	r, err := ocode.Renumber(c)
	if err != api.OK {
		t.Fatalf("Renumber(%v): %d", c, err)
	}
	return r
}

func mustDepths(t *testing.T, c api.Code) []int {
	t.Helper()
	l, err := ocode.Depths(c)
	if err != api.OK {
		t.Fatalf("Depths(%v): %d", c, err)
	}
	return l
}

// P6.6

func TestReadOfText(t *testing.T) {
	m := newMaker(63)
	for range rounds {
		c := m.code()
		s := mustText(t, c)
		if back, err, at := ocode.Read(s); !ocode.Same(back, c) || err != api.OK || at != 0 {
			t.Fatalf("Read(%q) = %v, %d at %d; want %v", s, back, err, at, c)
		}
		if model, line := modelRead(s); line != 0 || !ocode.Same(model, c) {
			t.Fatalf("the model reads %q as %v, %d", s, model, line)
		}
	}
}

func TestRenumberOfRenumber(t *testing.T) {
	m := newMaker(64)
	for range rounds {
		c := m.code()
		r := mustRenumber(t, c)
		if again := mustRenumber(t, r); !ocode.Same(again, r) {
			t.Fatalf("Renumber of Renumber of %v = %v; want %v", c, again, r)
		}
		if before, behind := mustDepths(t, c), mustDepths(t, r); !slices.Equal(before, behind) {
			t.Fatalf("Renumber of %v changes depths: %v, %v", c, before, behind)
		}
		checkRenumbered(t, c, r)
	}
}

// checkRenumbered holds that all labels have new numbers, in order, and nothing else is another one.
func checkRenumbered(t *testing.T, c, r api.Code) {
	t.Helper()
	to := map[int]int{}
	want := c
	want.Ops = slices.Clone(c.Ops)
	for n, i := range modelPlaces(c, "label") {
		to[c.Ops[i].N] = n + 1
		want.Ops[i].N = n + 1
	}
	for i, label := range modelNamed(c) {
		if modelIs(c, i, "case") {
			want.Ops[i].M = to[label]
		} else {
			want.Ops[i].N = to[label]
		}
	}
	want.Labels = len(to)
	if !ocode.Same(r, want) {
		t.Fatalf("Renumber(%v) = %v; want %v", c, r, want)
	}
}

// P6.7

func TestDepthsOfProceduresDoNotHangOnEachOther(t *testing.T) {
	m := newMaker(65)
	times := 0
	for range rounds {
		c := m.code()
		depths := mustDepths(t, c)
		for p := 1; p <= c.Procs && c.Procs > 1; p++ {
			times++
			without, kept := leftOut(c, p)
			var want []int
			for _, i := range kept {
				want = append(want, depths[i])
			}
			if l := mustDepths(t, without); !slices.Equal(l, want) {
				t.Fatalf("Depths(%v) without %d = %v; want %v", c, p, l, want)
			}
		}
	}
	if times < rounds {
		t.Errorf("only %d procedures left out", times)
	}
}

// leftOut returns code without a procedure, and the places of the instructions that it keeps. The first one is named in place of it.
func leftOut(c api.Code, p int) (api.Code, []int) {
	number := func(q int) int {
		switch {
		case q > p:
			return q - 1
		case q == p:
			return 1
		}
		return q
	}
	without := c
	without.Ops, without.Globals = nil, nil
	var kept []int
	for i, o := range c.Ops {
		if modelProc(c, i) == p {
			continue
		}
		if o.Op == api.OEnter || o.Op == api.OProc {
			o.N = number(o.N)
		}
		without.Ops = append(without.Ops, o)
		kept = append(kept, i)
	}
	for _, e := range c.Globals {
		without.Globals = append(without.Globals, api.Entry{Global: e.Global, Proc: number(e.Proc)})
	}
	without.Procs, without.Labels = c.Procs-1, modelGreatest(without, "label")
	return without, kept
}

// checkReadIsAsTheModel takes any text.
func checkReadIsAsTheModel(t *testing.T, s string) {
	t.Helper()
	c, line := modelRead(s)
	want := api.ErrCode
	if line == 0 {
		want = modelCheck(c)
	}
	if want != api.OK {
		c = api.Code{}
	}
	if got, err, at := ocode.Read(s); !ocode.Same(got, c) || err != want || at != line {
		t.Fatalf("Read(%q) = %v, %d at %d; want %v, %d at %d", s, got, err, at, c, want, line)
	}
}

// TestReadIsAsTheModel has the example's text with every line, every byte, and every word changed.
func TestReadIsAsTheModel(t *testing.T) {
	for i := range len(exampleText) + 1 {
		checkReadIsAsTheModel(t, exampleText[:i])
		for _, s := range []string{" ", "\n", "0", "-", "x", "\"", "*"} {
			checkReadIsAsTheModel(t, exampleText[:i]+s+exampleText[i:])
		}
		if i < len(exampleText) {
			checkReadIsAsTheModel(t, exampleText[:i]+exampleText[i+1:])
		}
	}
	l := strings.SplitAfter(exampleText, "\n")
	for i := range len(l) - 1 {
		checkReadIsAsTheModel(t, strings.Join(slices.Delete(slices.Clone(l), i, i+1), ""))
		checkReadIsAsTheModel(t, strings.Join(slices.Insert(slices.Clone(l), i, l[i]), ""))
		for j := range i {
			moved := slices.Clone(l)
			moved[i], moved[j] = moved[j], moved[i]
			checkReadIsAsTheModel(t, strings.Join(moved, ""))
		}
	}
}

// TestReadOfRandomTexts has texts of random code with a few words or lines changed.
func TestReadOfRandomTexts(t *testing.T) {
	m := newMaker(66)
	words := strings.Fields(modelOps + " " + modelOperators + ` code text words entry end "" "a" 0 1 2 3 -1 -0 01 +1 4001 2147483648 99999999999999999999`)
	for range rounds / 4 {
		s := mustText(t, m.code())
		for range 1 + m.Intn(2) {
			s = changedText(m.Rand, s, words)
		}
		checkReadIsAsTheModel(t, s)
	}
}

func changedText(r *rand.Rand, s string, words []string) string {
	word := words[r.Intn(len(words))]
	l := strings.SplitAfter(s, "\n")
	at, other := r.Intn(len(l)), r.Intn(len(l))
	switch r.Intn(5) {
	case 0:
		l[at] = l[other]
	case 1:
		l[at] = word + " " + strconv.Itoa(r.Intn(5)) + "\n"
	case 2:
		l[at], l[other] = l[other], l[at]
	default:
		parts := strings.Split(strings.TrimSuffix(l[at], "\n"), " ")
		parts[r.Intn(len(parts))] = word
		l[at] = strings.Join(parts, " ") + "\n"
	}
	return strings.Join(l, "")
}
