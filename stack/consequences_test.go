package stack_test

import (
	"fmt"
	"math/rand"
	"slices"
	"strings"
	"testing"

	"bluebell/api"
	"bluebell/mean"
	"bluebell/parse"
	"bluebell/stack"
	"bluebell/trans"
)

const someInput = "some input\xff\x00"

// P8.4

// program is a source in both of its shapes.
type program struct {
	src     string
	section api.Section
	code    api.Code
}

func newProgram(t testing.TB, src string) program {
	t.Helper()
	s, err, at := parse.Parse(src)
	if err != api.OK {
		t.Fatalf("Parse: %d at %d: %s", err, at, src[max(0, at-60):min(len(src), at+30)])
	}
	c, err := trans.Translate(s)
	if err != api.OK {
		t.Fatalf("Translate: %d: %.1000s", err, src)
	}
	return program{src, s, c}
}

// checkTame holds what the tree of a program tells against what its code tells, and returns how the tree ends.
func checkTame(t *testing.T, p program, f api.Form, fuel int) api.Result {
	t.Helper()
	want, _, err := mean.Run(p.section, f, someInput, fuel)
	if err != api.OK {
		t.Fatalf("mean.Run: %d: %.1000s", err, p.src)
	}
	if want.End != api.Done && want.End != api.Stopped {
		return want
	}
	got, err := stack.Run(p.code, f, someInput, 30*want.Steps+1000)
	if result(got) != result(want) || err != api.OK {
		t.Fatalf("by %v: %s, %d; want %s: %.1000s", f, told(got), err, told(want), p.src)
	}
	return want
}

func TestTamePrograms(t *testing.T) {
	t.Parallel()
	ends := map[int]int{}
	for seed := range int64(900) {
		p := newProgram(t, newAuthor(seed).program())
		for _, f := range []api.Form{forms()[seed%6], forms()[(seed+3)%6]} {
			ends[checkTame(t, p, f, 20000).End]++
		}
	}
	if ends[api.Done] < 700 || ends[api.Stopped] < 300 {
		t.Errorf("too few are tame: %v", ends)
	}
}

// Each step of a tree has few instructions, also where turns and cases are no steps of their own.
func TestTameProgramsOfFewSteps(t *testing.T) {
	var cases strings.Builder
	for i := range 200 {
		fmt.Fprintf(&cases, "case %d : endcase ; ", i)
	}
	for _, src := range []string{
		"let start() be for i = 1 to 30000 do { }",
		"let start() be for i = 30000 to 1 by -1 do for j = 1 to 0 do { }",
		"let start() be { let i = 0 ; while i < 9000 do i := i + 1 }",
		"let start() be { let v = vec 1 ; v ! 1 := 0 ; for i = 1 to 9000 do slct(3, 2, 1) of v := i }",
		"let start() be { for i = 1 to 9000 do switchon i & 63 into { " + cases.String() + "default : { } } }",
		"let start() be for i = 1 to 9000 do f() let f() be finish let g() be { }",
		"let start() be for i = 1 to 9000 do g() let g() be { }",
		"let start() be for i = 1 to 9000 do wrch(valof { let a, b, c, d = 1, 2, 3, 4 ; resultis a + d })",
	} {
		p := newProgram(t, src)
		for _, f := range forms() {
			if r := checkTame(t, p, f, 1000000); r.End != api.Done && r.End != api.Stopped {
				t.Errorf("%.200s by %v: %s", src, f, told(r))
			}
		}
	}
}

// What a tame program may use of calls and words is there: its greatest depth of calls, and its greatest frames.
func TestTameProgramsAtTheirLimits(t *testing.T) {
	for _, size := range []int{0, 50, 100, 900, api.MaxVec} {
		src := fmt.Sprintf("let start() be stop(f(START)) let f(n) = valof { let v = vec %d ; v ! %d := n ; if n > 0 do v ! %d := f(n - 1) + n ; resultis v ! %d }", size, size, size, size)
		tame, faults := 0, 0
		for n := range api.MaxCalls + 2 {
			p := newProgram(t, strings.Replace(src, "START", fmt.Sprint(n), 1))
			r := checkTame(t, p, forms()[n%6], 100000)
			switch {
			case r.End == api.Stopped && r.Code == n*(n+1)/2:
				tame++
			case r.Why == api.ErrRoom:
				faults++
			}
		}
		if tame == 0 || faults == 0 || tame+faults != api.MaxCalls+2 {
			t.Errorf("with vectors of %d: %d are tame, %d have no room", size, tame, faults)
		}
	}
	wide := newProgram(t, "let start() be { let a = vec 1900 ; let b = vec 1900 ; a ! 1900, b ! 0, b ! 1900 := 1, 2, 3 ; stop(f() + a ! 1900 + b ! 0 + b ! 1900) } let f() = valof { let c = vec 1900 ; c ! 0, c ! 1900 := 4, 5 ; resultis c ! 0 + c ! 1900 }")
	for _, f := range forms() {
		if r := checkTame(t, wide, f, 1000); r.End != api.Stopped || r.Code != 15 {
			t.Errorf("wide frames by %v: %s", f, told(r))
		}
	}
}

// So many calls that places are beyond words of 16 bits.
func TestTameProgramsOfManyInstructions(t *testing.T) {
	p := newProgram(t, "let f() be s := s + 1 static { s = 0 } let start() be { "+strings.Repeat("for i=0 to 0 do f();", 1600)+" stop(s) }")
	if len(p.code.Ops) < 1<<15+100 && api.MaxOps > 1<<15+100 {
		t.Errorf("there are only %d instructions", len(p.code.Ops))
	}
	for _, f := range forms() {
		if r := checkTame(t, p, f, 100000); r.End != api.Stopped || r.Code != 1600 {
			t.Errorf("by %v: %s", f, told(r))
		}
	}
}

// P8.5

// eachMachine calls a function with many random codes, odd ones and those of tame programs.
func eachMachine(t *testing.T, do func(what string, c api.Code, f api.Form, input string, random *rand.Rand)) {
	t.Helper()
	eachCode(500, func(seed int64, c api.Code, f api.Form, input string) {
		do(fmt.Sprint("code ", seed), c, f, input, rand.New(rand.NewSource(seed)))
	})
	for seed := range int64(150) {
		p := newProgram(t, newAuthor(seed).program())
		do(fmt.Sprint("program ", seed), p.code, forms()[seed%6], someInput, rand.New(rand.NewSource(seed)))
	}
}

// checkEnd compares a machine, and all of its memory, with the one that was run at once.
func checkEnd(t *testing.T, what string, got, want *stack.Machine) {
	t.Helper()
	if a, b := got.Step(0), want.Step(0); a != b || got.State() != want.State() || !slices.Equal(got.Walk(), want.Walk()) {
		t.Fatalf("%s: %s, %v; want %s, %v", what, told(a), got.State(), told(b), want.State())
	}
	for a := range api.MemSize {
		v, _ := got.Peek(a)
		if w, _ := want.Peek(a); v != w {
			t.Fatalf("%s: the word at %d is %d; want %d", what, a, v, w)
		}
	}
}

func TestStepsInPieces(t *testing.T) {
	t.Parallel()
	const fuel = 3000
	eachMachine(t, func(what string, c api.Code, f api.Form, input string, random *rand.Rand) {
		whole := newMachine(t, c, f, input)
		end := whole.Step(fuel)
		if r, err := stack.Run(c, f, input, fuel); r != end || err != api.OK {
			t.Fatalf("%s: Run: %s, %d; want %s", what, told(r), err, told(end))
		}
		pieces := newMachine(t, c, f, input)
		for left := fuel; left > 0; {
			n := min(left, random.Intn([]int{3, 20, 1000}[random.Intn(3)]))
			r := pieces.Step(n)
			left -= n
			if !strings.HasPrefix(end.Out, r.Out) || r.Steps != min(fuel-left, end.Steps) {
				t.Fatalf("%s: %s behind %d steps; the end is %s", what, told(r), fuel-left, told(end))
			}
		}
		checkEnd(t, what+" in pieces", pieces, whole)
		places := newMachine(t, c, f, input)
		for left := end.Steps; left > 0; {
			var l []int
			for range random.Intn(4) {
				l = append(l, random.Intn(len(c.Ops)+2)-1)
			}
			n, err := places.Until(l, min(left, 1+random.Intn(1000)))
			if n < 1 || err != api.OK {
				t.Fatalf("%s: Until: %d, %d", what, n, err)
			}
			left -= n
		}
		checkEnd(t, what+" until places", places, whole)
	})
}

// Until stops where a machine that goes step by step stands at such a place for the first time.
func TestUntilIsSteps(t *testing.T) {
	t.Parallel()
	eachMachine(t, func(what string, c api.Code, f api.Form, input string, random *rand.Rand) {
		a, b := newMachine(t, c, f, input), newMachine(t, c, f, input)
		for range 20 {
			l := []int{random.Intn(len(c.Ops)), random.Intn(len(c.Ops))}
			most := 1 + random.Intn(100)
			n, err := a.Until(l, most)
			if b.State().Ended {
				if n != 0 || err != api.ErrState {
					t.Fatalf("%s: Until behind the end: %d, %d", what, n, err)
				}
				return
			}
			want := 0
			for {
				b.Step(1)
				want++
				if want == most || b.State().Ended || slices.Contains(l, b.State().Place) {
					break
				}
			}
			if n != want || err != api.OK || a.State() != b.State() {
				t.Fatalf("%s: Until(%v, %d): %d, %d, %v; want %d, %v", what, l, most, n, err, a.State(), want, b.State())
			}
		}
	})
}

func TestProfilesAddUp(t *testing.T) {
	t.Parallel()
	eachMachine(t, func(what string, c api.Code, f api.Form, input string, random *rand.Rand) {
		for _, fuel := range []int{0, 1, 2, random.Intn(100), 3000} {
			r, _ := stack.Run(c, f, input, fuel)
			counts, err := stack.Profile(c, f, input, fuel)
			sum := 0
			for i, n := range counts {
				sum += n
				if o := c.Ops[i].Op; n < 0 || n > 0 && (o == api.OLabel || o == api.OCase) {
					t.Fatalf("%s: the instruction %d began %d times", what, i, n)
				}
			}
			if sum != max(0, r.Steps-1) || len(counts) != len(c.Ops) || err != api.OK {
				t.Fatalf("%s: %d, %d; want %d: %v", what, sum, err, r.Steps-1, counts)
			}
			called, err := stack.Cover(c, f, input, fuel)
			if len(called) != c.Procs || err != api.OK {
				t.Fatalf("%s: Cover: %v, %d", what, called, err)
			}
			for i, o := range c.Ops {
				if o.Op == api.OEnter && counts[i] > 0 && !called[o.N-1] {
					t.Fatalf("%s: the procedure %d was not called, but began %d times", what, o.N, counts[i])
				}
			}
		}
	})
}

// P8.6

// keepers are procedures that keep what they are told in locals of all kinds, in frames one above the other.
const keepers = writer +
	" let f(x) = valof { let s, k = x, 0 ; let v = vec 5 ; for i = 0 to 5 do v ! i := x ; { k := k + 1 ; v ! (k rem 6) := v ! (k rem 6) + s ; s := s + x ; x := cowait(s + v ! 0 + v ! 3 + k) } repeatwhile k < 5 ; resultis s }" +
	" let g(x) = x > 9 -> cowait(x) + 1, g(x + x + 1) + h(x) let h(x) = valof { let v = vec 2 ; v ! 0, v ! 1 := x, cowait(x + x) ; resultis v ! 0 - v ! 1 }"

// talk makes coroutines and calls them, each with the number and what it is told; it returns what each one of them answers.
func talk(t *testing.T, procs []string, calls [][2]int, f api.Form) [][]string {
	t.Helper()
	var src strings.Builder
	src.WriteString("let start() be { let c = vec 9 ; ")
	for i, proc := range procs {
		fmt.Fprintf(&src, "c ! %d := createco(%s, 300) ; ", i, proc)
	}
	for _, call := range calls {
		fmt.Fprintf(&src, "w(callco(c ! %d, %d)) ; ", call[0], call[1])
	}
	r, err := stack.Run(compiled(t, src.String()+"}"+keepers), f, "", enough)
	if r.End != api.Done || err != api.OK {
		t.Fatalf("%s: %s, %d", src.String(), told(r), err)
	}
	answers := make([][]string, len(procs))
	for i, s := range strings.Split(strings.TrimSuffix(r.Out, "."), ".")[:len(calls)] {
		answers[calls[i][0]] = append(answers[calls[i][0]], s)
	}
	return answers
}

func TestCoroutinesOfOneProcedureAreApart(t *testing.T) {
	random := rand.New(rand.NewSource(1))
	for turn := range 60 {
		proc := []string{"f", "g"}[turn%2]
		procs := slices.Repeat([]string{proc}, 2+random.Intn(4))
		var calls [][2]int
		for range 5 + random.Intn(25) {
			calls = append(calls, [2]int{random.Intn(len(procs)), random.Intn(40)})
		}
		f := forms()[turn%6]
		together := talk(t, procs, calls, f)
		for i := range procs {
			alone := slices.DeleteFunc(slices.Clone(calls), func(call [2]int) bool { return call[0] != i })
			if len(alone) == 0 {
				continue
			}
			if want := talk(t, procs, alone, f)[i]; !slices.Equal(together[i], want) {
				t.Errorf("%s by %v, %v: the coroutine %d answers %v; alone %v", proc, f, calls, i, together[i], want)
			}
		}
	}
}

// The words of a coroutine's frames lie in its own stack, whatever others do.
func TestStacksOfCoroutinesAreApart(t *testing.T) {
	c := compiled(t, "let start() be { let c, d = createco(f, 300), createco(f, 300) ; callco(c, 3) ; callco(d, 5) ; callco(c, 4) ; callco(d, 6) }"+keepers)
	for _, f := range forms() {
		m := newMachine(t, c, f, "")
		first, second := api.HeapBase, api.HeapBase+301
		var before [301]int
		was := 0
		for !m.State().Ended {
			s := m.State()
			if s.Co != was && s.Co == second {
				for i := range before {
					before[i] = peek(t, m, first+i)
				}
			}
			was = s.Co
			if s.Co == second {
				for i, w := range before {
					if peek(t, m, first+i) != w {
						t.Fatalf("by %v at %v: the word %d of the other stack has changed", f, s, i)
					}
				}
				if s.Frame < second || s.Frame+s.Depth > second+301 {
					t.Fatalf("by %v: %v is not in the stack", f, s)
				}
			}
			m.Step(1)
		}
	}
}
