package ocode_test

import (
	"math"
	"slices"
	"strings"
	"testing"

	"bluebell/api"
	"bluebell/ocode"
)

// P6.5

func TestWords(t *testing.T) {
	n := []int{0, 1, -1, 32767, 32768, 65535, 65536, 8388607, 8388608, 16777216, 2147483647, -2147483648, math.MaxInt, math.MinInt + 5}
	for _, x := range []struct {
		d      api.Data
		big    map[int][]int // by the bits
		little map[int][]int
	}{
		{api.Data{Words: n},
			map[int][]int{16: {0, 1, -1, 32767, -32768, -1, 0, -1, 0, 0, -1, 0, -1, 5}, 24: {0, 1, -1, 32767, 32768, 65535, 65536, 8388607, -8388608, 0, -1, 0, -1, 5}, 32: {0, 1, -1, 32767, 32768, 65535, 65536, 8388607, 8388608, 16777216, 2147483647, -2147483648, -1, 5}}, nil},
		{api.Data{}, map[int][]int{16: {}, 24: {}, 32: {}}, nil},
		{text("AB"), map[int][]int{16: {0x0241, 0x4200}, 24: {0x024142}, 32: {0x02414200}}, map[int][]int{16: {0x4102, 0x0042}, 24: {0x424102}, 32: {0x00424102}}},
		{text(""), map[int][]int{16: {0}, 24: {0}, 32: {0}}, nil},
		{text("\xff\x00"), map[int][]int{16: {0x02ff, 0}, 24: {0x02ff00}, 32: {0x02ff0000}}, map[int][]int{16: {-254, 0}, 24: {0x00ff02}, 32: {0x0000ff02}}}, // no string has these bytes, but they can be packed
		{api.Data{Text: "AB", IsText: true, Words: []int{7}}, map[int][]int{16: {0x0241, 0x4200}, 24: {0x024142}, 32: {0x02414200}}, map[int][]int{16: {0x4102, 0x0042}, 24: {0x424102}, 32: {0x00424102}}},
		{api.Data{Text: "AB", Words: []int{7}}, map[int][]int{16: {7}, 24: {7}, 32: {7}}, nil},
	} {
		for _, f := range forms() {
			want := x.big[f.Bits]
			if !f.Big && x.little != nil {
				want = x.little[f.Bits]
			}
			if l, err := ocode.Words(x.d, f); !slices.Equal(l, want) || err != api.OK {
				t.Errorf("Words(%v, %v) = %v, %d; want %v", x.d, f, l, err, want)
			}
		}
	}
}

func TestWordsOfLongTexts(t *testing.T) {
	for _, f := range forms() {
		size := f.Bits / 8
		for _, n := range []int{0, 1, 2, 3, 4, 100, 101, 254, 255} {
			l, err := ocode.Words(text(strings.Repeat("a", n)), f)
			if want := (1 + n + size - 1) / size; len(l) != want || err != api.OK {
				t.Errorf("Words of %d bytes by %v: %d words, %d; want %d", n, f, len(l), err, want)
			}
		}
		for _, n := range []int{256, 1000} {
			if l, err := ocode.Words(text(strings.Repeat("a", n)), f); len(l) != 0 || err != api.ErrLimit {
				t.Errorf("Words of %d bytes by %v: %v, %d", n, f, l, err)
			}
		}
	}
	for _, f := range wrongForms() {
		for _, d := range []api.Data{{}, {Words: []int{1}}, text("a"), text(strings.Repeat("a", 256))} {
			if l, err := ocode.Words(d, f); len(l) != 0 || err != api.ErrForm {
				t.Errorf("Words(%v, %v) = %v, %d", d, f, l, err)
			}
		}
	}
}

func TestWordsAreNewMemory(t *testing.T) {
	d := api.Data{Words: []int{65537, 2}}
	l, err := ocode.Words(d, api.Form{Bits: 32})
	if err != api.OK || !slices.Equal(l, []int{65537, 2}) {
		t.Fatalf("Words = %v, %d", l, err)
	}
	clear(l)
	if _, err := ocode.Words(d, api.Form{Bits: 16}); err != api.OK || !slices.Equal(d.Words, []int{65537, 2}) {
		t.Errorf("the argument became %v", d.Words)
	}
}

func TestLayout(t *testing.T) {
	full := api.Code{Data: []api.Data{words(api.StaticSize - 1), text("a")}}
	for _, x := range []struct {
		c      api.Code
		places map[int][]int // by the bits
		end    map[int]int
	}{
		{api.Code{}, nil, map[int]int{16: 200, 24: 200, 32: 200}},
		{example(), map[int][]int{16: {200, 204, 207}, 24: {200, 203, 206}, 32: {200, 202, 205}}, map[int]int{16: 208, 24: 207, 32: 206}},
		{api.Code{Data: []api.Data{text(""), text("a"), text("ab"), text("abc"), text("abcd"), words(2), text(strings.Repeat("a", 100)), words(1)}},
			map[int][]int{16: {200, 201, 202, 204, 206, 209, 211, 262}, 24: {200, 201, 202, 203, 205, 207, 209, 243}, 32: {200, 201, 202, 203, 204, 206, 208, 234}},
			map[int]int{16: 263, 24: 244, 32: 235}},
		{full, map[int][]int{16: {200, 7999}, 24: {200, 7999}, 32: {200, 7999}}, map[int]int{16: 8000, 24: 8000, 32: 8000}},
		{api.Code{Data: []api.Data{words(api.StaticSize)}}, map[int][]int{16: {200}, 24: {200}, 32: {200}}, map[int]int{16: api.StackBase, 24: api.StackBase, 32: api.StackBase}},
	} {
		for _, f := range forms() {
			if l, end, err := ocode.Layout(x.c, f); !slices.Equal(l, x.places[f.Bits]) || end != x.end[f.Bits] || err != api.OK {
				t.Errorf("Layout by %v = %v, %d, %d; want %v, %d", f, l, end, err, x.places[f.Bits], x.end[f.Bits])
			}
		}
		for _, f := range wrongForms() {
			if l, end, err := ocode.Layout(x.c, f); len(l) != 0 || end != 0 || err != api.ErrForm {
				t.Errorf("Layout by %v = %v, %d, %d", f, l, end, err)
			}
		}
	}
}

// TestLayoutBeyond has one word more than there is room for: by 16 bits, and so by all forms, that is Check's ErrLimit.
func TestLayoutBeyond(t *testing.T) {
	for _, l := range [][]api.Data{{words(api.StaticSize + 1)}, {words(api.StaticSize - 1), text("ab")}} {
		for _, f := range append(forms(), wrongForms()...) {
			if places, end, err := ocode.Layout(api.Code{Data: l}, f); len(places) != 0 || end != 0 || err != api.ErrLimit {
				t.Errorf("Layout by %v = %v, %d, %d", f, places, end, err)
			}
		}
	}
}
