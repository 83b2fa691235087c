package ocode_test

import (
	"slices"
	"testing"

	"bluebell/api"
	"bluebell/ocode"
)

// P6.3

// TestDepths has the depth before each instruction, with every instruction, and the greatest one of each procedure.
func TestDepths(t *testing.T) {
	for _, x := range []struct {
		src          string
		depths, room []int
	}{
		{"enter 1 0, num 65, return", []int{0, 2, 3}, []int{3}},
		{"enter 1 8, back", []int{0, 10}, []int{10}},
		{"enter 1 0, num 1, local 2, addrl 9, global 1, addrg 1, static 0, addrs 0, proc 1, back", []int{0, 2, 3, 4, 5, 6, 7, 8, 9, 10}, []int{10}},
		{"enter 1 8, putl 2, putg 1, puts 0, bin add, getb, true 1, false 1, label 1, stack 3, back", []int{0, 10, 9, 8, 7, 6, 5, 4, 3, 3, 3}, []int{10}},
		{"enter 1 8, load, un not, store, putb, back", []int{0, 10, 10, 10, 8, 5}, []int{10}},
		{"enter 1 8, switch 1 2, case 1 1, case 2 1, num 1, label 1, stack 4, back", []int{0, 10, 9, 9, 9, 10, 10, 4}, []int{10}},
		{"enter 1 0, stack 2004, stack 2, back", []int{0, 2, 2004, 2}, []int{2004}},
		{"enter 1 0, label 1, stack 4000, stack 2, back", []int{0, 2, 2, 4000, 2}, []int{4000}},
		{"enter 1 0, stack 7, num 1, proc 1, call 5, back", []int{0, 2, 7, 8, 9, 6}, []int{9}},
		{"enter 1 4, call 2, call 2, back", nil, nil}, // the second one does not find its procedure
		{"enter 1 4, call 2, return", []int{0, 6, 3}, []int{6}},
		{"enter 1 1, result 1, label 1, take 30, return", []int{0, 3, 2, 2, 31}, []int{31}},
		{"enter 1 1, result 1, label 1, take 1, back", []int{0, 3, 2, 2, 2}, []int{3}},
		// Behind what code does not go on from, the depth is what the table says.
		{"enter 1 8, jump 1, return, back, return, result 2, num 5, label 1, stack 2, back, label 2, take 5, back", []int{0, 10, 10, 9, 9, 8, 7, 8, 8, 2, 2, 2, 6}, []int{10}},
		{"enter 1 8, back, enter 2 3, return, enter 3 0, back, enter 4 1, num 1, num 2, return", []int{0, 10, 0, 5, 0, 2, 0, 3, 4, 5}, []int{10, 5, 2, 5}},
		// The greatest depth is one before, or behind, an instruction; also in dead code.
		{"enter 1 1, back, num 1, num 2, return", []int{0, 3, 3, 4, 5}, []int{5}},
		{"enter 1 0, num 1, num 2, putl 2, back", []int{0, 2, 3, 4, 3}, []int{4}},
		{"enter 1 0, stack 500, jump 1, label 1, stack 2, back", []int{0, 2, 500, 500, 500, 2}, []int{500}},
	} {
		c := code(x.src)
		want := api.OK
		if x.depths == nil {
			want = api.ErrStack
		}
		if l, err := ocode.Depths(c); !slices.Equal(l, x.depths) || err != want {
			t.Errorf("Depths of %s = %v, %d; want %v", x.src, l, err, x.depths)
		}
		if l, err := ocode.Room(c); !slices.Equal(l, x.room) || err != want {
			t.Errorf("Room of %s = %v, %d; want %v", x.src, l, err, x.room)
		}
	}
}

func TestDepthsOfNothing(t *testing.T) {
	for _, c := range []api.Code{{}, {Data: []api.Data{words(1)}}} {
		if l, err := ocode.Depths(c); len(l) != 0 || err != api.OK {
			t.Errorf("Depths = %v, %d", l, err)
		}
		if l, err := ocode.Room(c); len(l) != 0 || err != api.OK {
			t.Errorf("Room = %v, %d", l, err)
		}
	}
}

// TestRoomBehind has depths that are there before an instruction, and such that are there behind one.
func TestRoomBehind(t *testing.T) {
	for _, x := range []struct {
		src  string
		want int
	}{
		{"enter 1 8, label 1, stack 2, back", 10}, {"enter 1 0, num 1, putl 2, back", 3}, {"enter 1 0, back, take 9, back", 10}, {"enter 1 4, call 2, back", 6},
	} {
		if l, err := ocode.Room(code(x.src)); !slices.Equal(l, []int{x.want}) || err != api.OK {
			t.Errorf("Room of %s = %v, %d; want %d", x.src, l, err, x.want)
		}
	}
}
