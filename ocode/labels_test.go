package ocode_test

import (
	"slices"
	"testing"

	"bluebell/api"
	"bluebell/ocode"
)

// P6.4

func TestJumps(t *testing.T) {
	for _, x := range []struct {
		src  string
		want []int
	}{
		{"enter 1, back", nil},
		{"enter 1, label 1, stack 2, back", []int{0}},
		{"enter 1, label 3, stack 2, jump 3", []int{0, 0, 1}}, // numbers that no label has are named by nothing
		{"enter 1 4, true 1, false 1, jump 1, label 1, stack 2, jump 1", []int{4}},
		{"enter 1 4, switch 2 3, case 2 1, case 3 1, case 1 4, label 1, label 2, label 4, stack 2, back", []int{2, 1, 0, 1}}, // N of a case is no label
		{"enter 1 4, result 2, result 2, label 2, label 1, take 2, back", []int{0, 2}},
		{"enter 1, jump 2, label 2, stack 2, back, enter 2, jump 1, label 1, stack 2, num 2, jump 1", []int{2, 1}},
		{"enter 1 5, local 4, stack 5, call 2, back, label 4, stack 3, putl 2, jump 4", []int{0, 0, 0, 1}}, // other numbers are no labels
	} {
		if l, err := ocode.Jumps(code(x.src)); !slices.Equal(l, x.want) || err != api.OK {
			t.Errorf("Jumps of %s = %v, %d; want %v", x.src, l, err, x.want)
		}
	}
	if l, err := ocode.Jumps(api.Code{}); len(l) != 0 || err != api.OK {
		t.Errorf("Jumps of nothing = %v, %d", l, err)
	}
}

func TestRenumber(t *testing.T) {
	for _, x := range []struct{ src, want string }{
		{"enter 1, back", "enter 1, back"},
		{"enter 1, label 1, stack 2, jump 1", "enter 1, label 1, stack 2, jump 1"},
		{"enter 1, label 20000, stack 2, jump 20000", "enter 1, label 1, stack 2, jump 1"},
		{"enter 1, jump 1, label 5, label 1, stack 2, jump 5, label 3, stack 2, back", "enter 1, jump 2, label 1, label 2, stack 2, jump 1, label 3, stack 2, back"},
		{"enter 1 5, true 4, false 3, switch 2 2, case 4 3, case 1 4, label 4, stack 3, result 1, label 3, stack 2, back, label 2, stack 2, back, label 1, take 2, back",
			"enter 1 5, true 1, false 2, switch 3 2, case 4 2, case 1 1, label 1, stack 3, result 4, label 2, stack 2, back, label 3, stack 2, back, label 4, take 2, back"},
		{"enter 1, label 9, stack 2, jump 9, enter 2, label 2, stack 2, jump 2, enter 3, num 9, label 7, stack 2, num 7, jump 7",
			"enter 1, label 1, stack 2, jump 1, enter 2, label 2, stack 2, jump 2, enter 3, num 9, label 3, stack 2, num 7, jump 3"},
	} {
		if c, err := ocode.Renumber(code(x.src)); !ocode.Same(c, code(x.want)) || err != api.OK {
			t.Errorf("Renumber of %s = %v, %d", x.src, c, err)
		}
	}
	if c, err := ocode.Renumber(api.Code{}); !ocode.Same(c, api.Code{}) || err != api.OK {
		t.Errorf("Renumber of nothing = %v, %d", c, err)
	}
}

// TestRenumberIsNewMemory has all that is no label stay as it is, and the argument, too.
func TestRenumberIsNewMemory(t *testing.T) {
	c := example()
	r, err := ocode.Renumber(c)
	if err != api.OK || !ocode.Same(c, example()) {
		t.Fatalf("Renumber: %d, the argument is %v", err, c)
	}
	want := example()
	want.Labels = 3
	for i := range want.Ops {
		o := &want.Ops[i]
		switch o.Op {
		case api.OLabel, api.OFalse, api.OResult, api.OSwitch:
			o.N = map[int]int{4: 1, 7: 2, 9: 3}[o.N]
		case api.OCase:
			o.M = map[int]int{4: 1, 7: 2, 9: 3}[o.M]
		}
	}
	if !ocode.Same(r, want) {
		t.Errorf("Renumber = %v; want %v", r, want)
	}
	clear(r.Data[1].Words)
	clear(r.Data)
	clear(r.Ops)
	clear(r.Globals)
	if !ocode.Same(c, example()) {
		t.Error("Renumber's result shares memory with its argument")
	}
}
