package mean_test

import (
	"math/rand"
	"slices"
	"strconv"
	"strings"
	"testing"

	"bluebell/api"
	"bluebell/mean"
	"bluebell/parse"
	"bluebell/scope"
)

// eachProgram calls a function with many random programs, some that end well and some that slip.
func eachProgram(t *testing.T, seeds int, do func(seed int64, src string, s api.Section)) {
	t.Helper()
	count := 0
	for seed := range int64(seeds) {
		src := newMaker(seed, []int{0, 30, 100, 300}[seed%4]).program()
		s, err, at := parse.Parse(src)
		if err != api.OK {
			t.Fatalf("seed %d: Parse: %d at %d: %s", seed, err, at, src[max(0, at-60):min(len(src), at+30)])
		}
		if scope.Whole(s) == api.OK {
			count++
			do(seed, src, s)
		}
	}
	if count < seeds*9/10 {
		t.Errorf("only %d of %d programs pass scope", count, seeds)
	}
}

const someInput = "some input\xff\x00"

// P5.1 and P5.3: the package and the model agree.
func TestTheModelAgrees(t *testing.T) {
	t.Parallel()
	ends := map[int]int{}
	narrows := map[bool]int{}
	eachProgram(t, 2400, func(seed int64, src string, s api.Section) {
		f := forms()[seed/4%6]
		fuel := []int{3000, 20000, 100}[seed/24%3]
		r, narrow, err := mean.Run(s, f, someInput, fuel)
		want, wantNarrow, wantNames := modelRun(s, f, someInput, fuel)
		if r != want || narrow != wantNarrow || err != api.OK {
			t.Fatalf("seed %d by %v: %v, %v, %d; want %v, %v: %s", seed, f, r, narrow, err, want, wantNarrow, src)
		}
		if names, err := mean.Trace(s, f, someInput, fuel); !slices.Equal(names, wantNames) || err != api.OK {
			t.Fatalf("seed %d: Trace(%s) by %v: %v, %d; want %v", seed, src, f, names, err, wantNames)
		}
		tame, err := mean.Tame(s, f, someInput, fuel)
		if tame != (want.End == api.Done || want.End == api.Stopped) || err != api.OK {
			t.Fatalf("seed %d: Tame(%s) by %v: %v, %d", seed, src, f, tame, err)
		}
		ends[r.End]++
		narrows[narrow]++
	})
	for end, least := range map[int]int{api.Done: 600, api.Stopped: 300, api.Fuel: 300, api.Fault: 2, api.Wild: 200} {
		if ends[end] < least {
			t.Errorf("only %d end with %d", ends[end], end)
		}
	}
	if narrows[true] < 500 || narrows[false] < 500 {
		t.Errorf("%d are narrow, %d are not", narrows[true], narrows[false])
	}
}

// P5.4

func TestFuelIsAPrefix(t *testing.T) {
	t.Parallel()
	eachProgram(t, 300, func(seed int64, src string, s api.Section) {
		f := forms()[seed/4%6]
		whole, narrow, _ := mean.Run(s, f, someInput, 20000)
		all, _ := mean.Trace(s, f, someInput, 20000)
		fuels := []int{0, 1, 2, whole.Steps / 3, whole.Steps / 2, whole.Steps - 1, whole.Steps}
		if seed < 40 {
			for fuel := range min(whole.Steps, 200) {
				fuels = append(fuels, fuel)
			}
		}
		for _, fuel := range fuels {
			if fuel < 0 {
				continue
			}
			r, _, err := mean.Run(s, f, someInput, fuel)
			isSame := fuel == whole.Steps && r == whole
			isCut := r.End == api.Fuel && r.Steps == fuel && fuel <= whole.Steps && r.Code == 0 && r.Why == api.OK
			if !strings.HasPrefix(whole.Out, r.Out) || !isSame && !isCut || err != api.OK {
				t.Fatalf("seed %d with the fuel %d: %v, %d; with more %v: %s", seed, fuel, r, err, whole, src)
			}
			if names, _ := mean.Trace(s, f, someInput, fuel); !slices.Equal(names, all[:min(len(names), len(all))]) {
				t.Fatalf("seed %d with the fuel %d: %v; with more %v: %s", seed, fuel, names, all, src)
			}
		}
		if whole.End == api.Fuel {
			return
		}
		for _, fuel := range []int{whole.Steps, whole.Steps + 1, 1000000, api.MaxSteps} {
			if r, n, err := mean.Run(s, f, someInput, fuel); r != whole || n != narrow || err != api.OK {
				t.Fatalf("seed %d with the fuel %d: %v, %v, %d; with less %v, %v: %s", seed, fuel, r, n, err, whole, narrow, src)
			}
		}
	})
}

// P5.5

// checkLonger holds a run that is narrow against those by longer words, and reports whether one is narrow.
func checkLonger(t *testing.T, s api.Section, what string) bool {
	t.Helper()
	var results [6]api.Result
	var narrows [6]bool
	for i, f := range forms() {
		results[i], narrows[i], _ = mean.Run(s, f, someInput, 20000)
	}
	for i := range forms() {
		for j := i &^ 1; j < len(forms()); j++ {
			isAsLong := j/2 == i/2
			if (narrows[i] || isAsLong) && results[i] != results[j] || narrows[i] && !narrows[j] {
				t.Fatalf("by %v: %v, %v; by %v: %v, %v: %s", forms()[i], results[i], narrows[i], forms()[j], results[j], narrows[j], what)
			}
		}
	}
	return narrows[0]
}

func TestNarrowRunsAreTheSameByLongerWords(t *testing.T) {
	t.Parallel()
	count := 0
	eachProgram(t, 2400, func(_ int64, src string, s api.Section) {
		if checkLonger(t, s, src) {
			count++
		}
	})
	if count < 800 {
		t.Errorf("only %d are narrow", count)
	}
	for _, src := range []string{
		"let start() be { let v = vec 5 ; v % 4 := 65 ; v ! 1 := 5 }", "let start() be { let v = vec 5 ; v % 4 := 65 ; let x = v ! 1 }", "let start() be { let v = vec 5 ; v ! 1 := 5 ; v % 4 := 65 }",
		"let start() = \"ab\" % 3", "let start() = 40000 / 7", "let start() = - 1 >> 1", "let start() be switchon 1 into { case 65537 : stop(1) ; case 1 : stop(2) }", "let start() be { let x = 0 ; slct(1, 15, 0) of @ x := 1 ; stop(x) }", "let start() be { let x = - 1 ; stop(slct(0, 3, 0) of @ x) }",
	} {
		checkLonger(t, mustParse(t, src), src)
	}
}

// Bytes and words of one vector, in any order.
func TestNarrowBytesAndWordsAreTheSameByLongerWords(t *testing.T) {
	random := rand.New(rand.NewSource(1))
	count := 0
	for range 6000 {
		src := "let start() be { let v = vec 5"
		for range 1 + random.Intn(5) {
			use := []string{"v % B := 65", "v % B := 66", "v % B := 67", "v ! W := 1", "v ! W := ?", "let x = v ! W", "wrch(v % B)", "if v ! W do wrch(1)"}[random.Intn(8)]
			use = strings.ReplaceAll(use, "B", strconv.Itoa(random.Intn(12)))
			src += " ; " + strings.ReplaceAll(use, "W", strconv.Itoa(random.Intn(6)))
		}
		if checkLonger(t, mustParse(t, src+" }"), src) {
			count++
		}
	}
	if count < 1000 {
		t.Errorf("only %d are narrow", count)
	}
}

// P5.6

func TestPrintedProgramsMeanTheSame(t *testing.T) {
	t.Parallel()
	random := rand.New(rand.NewSource(1))
	eachProgram(t, 1000, func(seed int64, src string, s api.Section) {
		text, err := parse.Print(s)
		if err != api.OK {
			t.Fatalf("seed %d: Print: %d: %s", seed, err, src)
		}
		checkSame(t, s, mustParse(t, text), forms()[seed/4%6], src)
		var places []int
		for i, d := range s.Decls {
			if d.Op == api.DProc {
				places = append(places, i)
			}
		}
		other := api.Section{Name: "other", Decls: slices.Clone(s.Decls)}
		random.Shuffle(len(places), func(i, j int) {
			i, j = places[i], places[j]
			other.Decls[i], other.Decls[j] = other.Decls[j], other.Decls[i]
		})
		checkSame(t, s, other, forms()[seed/4%6], src)
	})
}

// checkSame takes two sections that mean the same.
func checkSame(t *testing.T, a, b api.Section, f api.Form, src string) {
	t.Helper()
	r, narrow, _ := mean.Run(a, f, someInput, 20000)
	names, _ := mean.Trace(a, f, someInput, 20000)
	otherResult, otherNarrow, err := mean.Run(b, f, someInput, 20000)
	otherNames, _ := mean.Trace(b, f, someInput, 20000)
	if r != otherResult || narrow != otherNarrow || !slices.Equal(names, otherNames) || err != api.OK {
		t.Fatalf("by %v: %v, %v, %d; want %v, %v: %s", f, otherResult, otherNarrow, err, r, narrow, src)
	}
}
