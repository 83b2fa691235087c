package lex_test

import (
	"math"
	"slices"
	"strings"
	"testing"

	"bluebell/api"
	"bluebell/lex"
)

// P2.6

// rightSources returns those of someSources that have no error.
func rightSources() []string {
	return slices.DeleteFunc(someSources(8), func(src string) bool {
		_, err, _ := modelScan(src)
		return err != api.OK
	})
}

func checkBack(t *testing.T, src string) {
	t.Helper()
	l := scan(t, src)
	s, err := lex.Text(l)
	if err != api.OK {
		t.Fatalf("Text of Scan(%q): %d", src, err)
	}
	if back := scan(t, s); !slices.Equal(without(back), without(l)) {
		t.Errorf("Scan(%q) = %v; Scan of its Text %q = %v", src, l, s, back)
	}
}

func TestScanOfText(t *testing.T) {
	l := rightSources()
	if len(l) < 1000 {
		t.Fatalf("only %d sources without an error", len(l))
	}
	for _, src := range l {
		checkBack(t, src)
	}
	eachShort(func(src string) {
		if _, err, _ := modelScan(src); err == api.OK {
			checkBack(t, src)
		}
	})
	// Any two signs stay two.
	for _, a := range lex.Signs() {
		for _, b := range lex.Signs() {
			checkBack(t, a+" "+b)
		}
	}
}

func TestScanOfQuote(t *testing.T) {
	var all []byte
	for c := byte(32); c < 127; c++ {
		all = append(all, c)
	}
	for _, s := range []string{"", "a", "\n\t\n", "**n*", `""`, "it's", " ", "// a", string(all), strings.Repeat("*", api.MaxString), strings.Repeat("\t", api.MaxString)} {
		q, err := lex.Quote(s)
		if err != api.OK {
			t.Fatalf("Quote(%q): %d", s, err)
		}
		checkTokens(t, q, text(s))
	}
}

func TestScanOfNumber(t *testing.T) {
	l := []int{0, 1, 9, 10, 255, 12345678, math.MaxInt32 - 1, math.MaxInt32, -1, -2, -255, -12345678, math.MinInt32 + 1, math.MinInt32}
	for bits := range 31 {
		l = append(l, 1<<bits, -1<<bits, 1<<bits-1)
	}
	for _, n := range l {
		s, err := lex.Number(n)
		if err != api.OK {
			t.Fatalf("Number(%d): %d", n, err)
		}
		checkTokens(t, s, number(n))
	}
}

func TestTwoSources(t *testing.T) {
	second := someSources(8)
	for i, a := range rightSources() {
		b := second[i]
		first, behind := scan(t, a), len(a)+1
		l, err, at := lex.Scan(a + "\n" + b)
		rest, wantErr, wantAt := lex.Scan(b)
		if wantErr != api.OK {
			if len(l) != 0 || err != wantErr || at != behind+wantAt {
				t.Errorf("Scan(%q, a line feed, %q) = %v, %d at %d; want %d at %d", a, b, l, err, at, wantErr, behind+wantAt)
			}
			continue
		}
		want := first[:len(first)-1]
		for _, x := range rest {
			x.At += behind
			want = append(want, x)
		}
		if !slices.Equal(l, want) || err != api.OK || at != 0 {
			t.Errorf("Scan(%q, a line feed, %q) = %v, %d at %d; want %v", a, b, l, err, at, want)
		}
	}
}

func TestPlacesRise(t *testing.T) {
	for _, src := range rightSources() {
		last := -1
		for _, x := range scan(t, src) {
			if x.At <= last || x.At > len(src) {
				t.Errorf("Scan(%q): place %d behind %d", src, x.At, last)
			}
			last = x.At
		}
		if last != len(src) {
			t.Errorf("Scan(%q): the last token is at %d", src, last)
		}
	}
}
