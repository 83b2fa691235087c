package parse

import (
	"testing"

	"bluebell/api"
	"bluebell/lex"
)

// readBehind reads a section as if so many nodes were finished before it.
func readBehind(nodes int, src string) (err api.Errno, at int) {
	defer func() {
		if f, ok := recover().(failure); ok {
			err, at = f.err, f.at
		}
	}()
	tokens, _, _ := lex.Scan(src)
	(&reader{tokens: tokens, nodes: nodes}).section()
	return api.OK, 0
}

// P3.1: a source of MaxTokens tokens never has more than MaxNodes nodes, so that their count is looked at from within.
func TestNodesAreCountedAsTheyAreFinished(t *testing.T) {
	for _, x := range []struct {
		src    string
		places []int // of the nodes, in the order in which they are finished
	}{
		{"let f(a) be b(c) manifest { d = -1 + 2 } let g() = 3", []int{6, 12, 14, 12, 12, 0, 33, 32, 37, 32, 28, 17, 51, 41}},
		{"let f() be { let v = vec 9 ; let a, b = 1, 2 ; }", []int{25, 13, 33, 36, 40, 43, 29, 47, 11, 0}},
		{"let f() be for i = 1 to 2 do a -> b, c := d repeat", []int{19, 24, 29, 34, 37, 29, 42, 29, 29, 11, 0}},
		{"let f() be test a then else l: {} and g() = !b!c(d)", []int{16, 23, 32, 31, 28, 11, 0, 45, 44, 47, 49, 47, 44, 34}},
		{"static { a = table(1, valof {}) ; b = slct(1, 2, 3) }", []int{19, 29, 28, 22, 13, 9, 43, 46, 49, 38, 34, 0}},
	} {
		for i, place := range x.places {
			if err, at := readBehind(api.MaxNodes-i, x.src); err != api.ErrLimit || at != place {
				t.Errorf("%q behind MaxNodes - %d nodes: %d at %d; want %d", x.src, i, err, at, place)
			}
		}
		if err, at := readBehind(api.MaxNodes-len(x.places), x.src); err != api.OK {
			t.Errorf("%q behind MaxNodes - %d nodes: %d at %d", x.src, len(x.places), err, at)
		}
	}
}

// A node is counted before the next token is looked at, but what is no node is unexpected first.
func TestNodesAreCountedBeforeTheNextToken(t *testing.T) {
	for src, want := range map[string]int{"let f() = 1 + 2 )": 10, "manifest { a = 1 } )": 15, "let f() be break )": 11, "let f() be )": 11} {
		if err, at := readBehind(api.MaxNodes, src); err != api.ErrLimit || at != want {
			t.Errorf("%q: %d at %d; want %d", src, err, at, want)
		}
	}
	if err, at := readBehind(api.MaxNodes-1, "let f() = 1 )"); err != api.ErrLimit || at != 0 {
		t.Errorf("a DProc too many: %d at %d", err, at)
	}
	for src, place := range map[string]int{"let f() = )": 10, "manifest )": 9, "let f() be repeat": 11} {
		if err, at := readBehind(api.MaxNodes, src); err != api.ErrToken || at != place {
			t.Errorf("%q: %d at %d", src, err, at)
		}
	}
}
