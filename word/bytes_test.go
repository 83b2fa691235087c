package word_test

import (
	"math"
	"slices"
	"strings"
	"testing"

	"bluebell/api"
	"bluebell/word"
)

// modelBytes writes each word down from its lowest byte on, and turns them round if they are wanted from the highest one on.
func modelBytes(words []int, f api.Form) []byte {
	var out []byte
	for _, w := range words {
		u := modelUnsigned(whole(w), f.Bits)
		var b []byte
		for range f.Bits / 8 {
			b = append(b, byte(u%256))
			u /= 256
		}
		if f.Big {
			slices.Reverse(b)
		}
		out = append(out, b...)
	}
	return out
}

func modelWords(words []int, f api.Form) []int {
	var out []int
	for _, w := range words {
		out = append(out, modelNorm(whole(w), f.Bits))
	}
	return out
}

// text is n bytes, no two neighbours alike, of all values if n is great enough.
func text(n int) string {
	b := make([]byte, n)
	for i := range n {
		b[i] = byte(37*i + n)
	}
	return string(b)
}

// P1.4

func TestGetByte(t *testing.T) {
	for _, x := range []struct {
		words   []int
		i       int
		f       api.Form
		want    int
		wantErr api.Errno
	}{
		{[]int{0x0102, 0x0304}, 0, api.Form{Bits: 16, Big: true}, 1, api.OK}, {[]int{0x0102, 0x0304}, 1, api.Form{Bits: 16, Big: true}, 2, api.OK}, {[]int{0x0102, 0x0304}, 2, api.Form{Bits: 16, Big: true}, 3, api.OK},
		{[]int{0x0102, 0x0304}, 0, api.Form{Bits: 16}, 2, api.OK}, {[]int{0x0102, 0x0304}, 1, api.Form{Bits: 16}, 1, api.OK}, {[]int{0x0102, 0x0304}, 3, api.Form{Bits: 16}, 3, api.OK},
		{[]int{0x010203}, 0, api.Form{Bits: 24, Big: true}, 1, api.OK}, {[]int{0x010203}, 0, api.Form{Bits: 24}, 3, api.OK}, {[]int{0x010203}, 1, api.Form{Bits: 24}, 2, api.OK}, {[]int{0, 0x010203}, 5, api.Form{Bits: 24}, 1, api.OK},
		{[]int{0x01020304}, 0, api.Form{Bits: 32, Big: true}, 1, api.OK}, {[]int{0x01020304}, 2, api.Form{Bits: 32, Big: true}, 3, api.OK}, {[]int{0x01020304}, 2, api.Form{Bits: 32}, 2, api.OK},
		{[]int{-1}, 1, api.Form{Bits: 16}, 255, api.OK}, {[]int{-32768}, 1, api.Form{Bits: 16}, 128, api.OK}, {[]int{0x7fff0102}, 0, api.Form{Bits: 16, Big: true}, 1, api.OK}, {[]int{math.MinInt + 5}, 0, api.Form{Bits: 24}, 5, api.OK},
		{[]int{0}, -1, api.Form{Bits: 16}, 0, api.ErrRange}, {[]int{7}, 2, api.Form{Bits: 16}, 0, api.ErrRange}, {[]int{7}, 3, api.Form{Bits: 24, Big: true}, 0, api.ErrRange}, {[]int{7}, 4, api.Form{Bits: 32}, 0, api.ErrRange}, {nil, 0, api.Form{Bits: 32}, 0, api.ErrRange}, {[]int{7}, math.MinInt, api.Form{Bits: 24}, 0, api.ErrRange}, {[]int{7}, math.MaxInt, api.Form{Bits: 16, Big: true}, 0, api.ErrRange},
		{[]int{7}, 0, api.Form{Bits: 8}, 0, api.ErrForm}, {nil, -1, api.Form{}, 0, api.ErrForm},
	} {
		if b, e := word.GetByte(x.words, x.i, x.f); b != x.want || e != x.wantErr {
			t.Errorf("GetByte(%x, %d, %v) = %x, %d; want %x, %d", x.words, x.i, x.f, b, e, x.want, x.wantErr)
		}
	}
}

func TestPutByte(t *testing.T) {
	for _, x := range []struct {
		words   []int
		i, v    int
		f       api.Form
		want    []int
		wantErr api.Errno
	}{
		{[]int{0x0102, 0x0304}, 2, 0x55, api.Form{Bits: 16, Big: true}, []int{0x0102, 0x5504}, api.OK}, {[]int{0x0102, 0x0304}, 2, 0x55, api.Form{Bits: 16}, []int{0x0102, 0x0355}, api.OK},
		{[]int{0x010203}, 0, 0x55, api.Form{Bits: 24, Big: true}, []int{0x550203}, api.OK}, {[]int{0x010203}, 1, 0x55, api.Form{Bits: 24}, []int{0x015503}, api.OK},
		{[]int{0x01020304}, 3, 0x55, api.Form{Bits: 32, Big: true}, []int{0x01020355}, api.OK}, {[]int{0x01020304}, 3, 0x55, api.Form{Bits: 32}, []int{0x55020304}, api.OK},
		{[]int{0}, 0, 128, api.Form{Bits: 16, Big: true}, []int{-32768}, api.OK}, {[]int{0}, 2, 128, api.Form{Bits: 24}, []int{-8388608}, api.OK}, {[]int{0}, 3, 128, api.Form{Bits: 32}, []int{-2147483648}, api.OK}, {[]int{-1}, 0, 0x7f, api.Form{Bits: 16, Big: true}, []int{32767}, api.OK},
		{[]int{0}, 0, 0x1fe, api.Form{Bits: 16}, []int{0xfe}, api.OK}, {[]int{0}, 0, -2, api.Form{Bits: 16}, []int{0xfe}, api.OK}, {[]int{0}, 0, math.MinInt, api.Form{Bits: 32}, []int{0}, api.OK}, {[]int{0}, 0, math.MaxInt, api.Form{Bits: 32}, []int{0xff}, api.OK},
		{[]int{40000, 65537, -40000}, 2, 2, api.Form{Bits: 16}, []int{-25536, 2, 25536}, api.OK}, {[]int{1 << 24, -1 << 23, 1 << 23}, 0, 7, api.Form{Bits: 24}, []int{7, -1 << 23, -1 << 23}, api.OK}, // all words are normed
		{[]int{0}, -1, 1, api.Form{Bits: 16}, nil, api.ErrRange}, {[]int{0}, 2, 1, api.Form{Bits: 16}, nil, api.ErrRange}, {[]int{0}, 3, 1, api.Form{Bits: 24}, nil, api.ErrRange}, {[]int{0}, 4, 1, api.Form{Bits: 32, Big: true}, nil, api.ErrRange}, {nil, 0, 1, api.Form{Bits: 16}, nil, api.ErrRange}, {[]int{0}, math.MaxInt, 1, api.Form{Bits: 32}, nil, api.ErrRange}, {[]int{0}, math.MinInt, 1, api.Form{Bits: 32}, nil, api.ErrRange},
		{[]int{0}, 0, 1, api.Form{Bits: 40}, nil, api.ErrForm}, {nil, -1, 1, api.Form{Bits: -16}, nil, api.ErrForm},
	} {
		if w, e := word.PutByte(x.words, x.i, x.v, x.f); !slices.Equal(w, x.want) || e != x.wantErr {
			t.Errorf("PutByte(%x, %d, %d, %v) = %x, %d; want %x, %d", x.words, x.i, x.v, x.f, w, e, x.want, x.wantErr)
		}
	}
}

func TestGetByteOfAnyInt(t *testing.T) {
	for _, f := range forms() {
		words := numbers()
		for i, want := range modelBytes(words, f) {
			if b, e := word.GetByte(words, i, f); b != int(want) || e != api.OK {
				t.Errorf("GetByte(.., %d, %v) = %d, %d; want %d", i, f, b, e, want)
			}
		}
	}
}

// P1.5

func TestPack(t *testing.T) {
	for _, x := range []struct {
		s    string
		f    api.Form
		want []int
	}{
		{"AB", api.Form{Bits: 16, Big: true}, []int{0x0241, 0x4200}}, {"AB", api.Form{Bits: 16}, []int{0x4102, 0x0042}},
		{"AB", api.Form{Bits: 24, Big: true}, []int{0x024142}}, {"AB", api.Form{Bits: 24}, []int{0x424102}}, {"AB", api.Form{Bits: 32, Big: true}, []int{0x02414200}}, {"AB", api.Form{Bits: 32}, []int{0x00424102}},
		{"", api.Form{Bits: 16, Big: true}, []int{0}}, {"", api.Form{Bits: 24}, []int{0}}, {"", api.Form{Bits: 32}, []int{0}},
		{"A", api.Form{Bits: 16, Big: true}, []int{0x0141}}, {"ABC", api.Form{Bits: 16, Big: true}, []int{0x0341, 0x4243}}, {"ABC", api.Form{Bits: 24, Big: true}, []int{0x034142, 0x430000}}, {"ABC", api.Form{Bits: 32}, []int{0x43424103}}, {"ABCD", api.Form{Bits: 32}, []int{0x43424104, 0x44}},
		{"\xff\xfe", api.Form{Bits: 16}, []int{-0x100 + 2, 0xfe}}, {"\x00\x80", api.Form{Bits: 24}, []int{0x800002 - 1<<24}}, {"\x00\x00\xff", api.Form{Bits: 32}, []int{3 - 1<<24}}, {"é", api.Form{Bits: 32, Big: true}, []int{0x02c3a900}},
	} {
		if w, e := word.Pack(x.s, x.f); !slices.Equal(w, x.want) || e != api.OK {
			t.Errorf("Pack(%q, %v) = %x, %d; want %x", x.s, x.f, w, e, x.want)
		}
	}
}

func TestPackOfEveryLength(t *testing.T) {
	for _, f := range forms() {
		for n := range 256 {
			want := append([]byte{byte(n)}, text(n)...)
			for len(want)%(f.Bits/8) != 0 {
				want = append(want, 0)
			}
			w, e := word.Pack(text(n), f)
			if e != api.OK || !slices.Equal(modelBytes(w, f), want) || !slices.Equal(modelWords(w, f), w) {
				t.Errorf("Pack of %d bytes by %v = %x, %d", n, f, w, e)
			}
		}
	}
}

func TestPackErrors(t *testing.T) {
	for _, f := range forms() {
		if w, e := word.Pack(text(256), f); w != nil || e != api.ErrLimit {
			t.Errorf("Pack of 256 bytes by %v = %x, %d", f, w, e)
		}
		if w, e := word.Pack(strings.Repeat("x", 100000), f); w != nil || e != api.ErrLimit {
			t.Errorf("Pack of 100000 bytes by %v: %d words, %d", f, len(w), e)
		}
	}
	for _, f := range noForms() {
		if w, e := word.Pack(text(256), f); w != nil || e != api.ErrForm {
			t.Errorf("Pack by %v = %x, %d", f, w, e)
		}
	}
}

func TestUnpack(t *testing.T) {
	for _, x := range []struct {
		words   []int
		f       api.Form
		want    string
		wantErr api.Errno
	}{
		{[]int{0x0241, 0x4200}, api.Form{Bits: 16, Big: true}, "AB", api.OK}, {[]int{0x4102, 0x0042}, api.Form{Bits: 16}, "AB", api.OK}, {[]int{0x424102}, api.Form{Bits: 24}, "AB", api.OK}, {[]int{0x02414200}, api.Form{Bits: 32, Big: true}, "AB", api.OK},
		{[]int{0}, api.Form{Bits: 16}, "", api.OK}, {[]int{0x00ff, 9}, api.Form{Bits: 16, Big: true}, "", api.OK},
		{[]int{0x4102, 0x0042, 9, -1}, api.Form{Bits: 16}, "AB", api.OK}, {[]int{0x4102, 0x4342}, api.Form{Bits: 16}, "AB", api.OK}, // what is behind the text does not matter
		{[]int{0x14102, 0x42 - 1<<16}, api.Form{Bits: 16}, "AB", api.OK}, {[]int{-0x100 + 1}, api.Form{Bits: 32}, "\xff", api.OK},
		{nil, api.Form{Bits: 16}, "", api.ErrEnd}, {[]int{}, api.Form{Bits: 32, Big: true}, "", api.ErrEnd},
		{[]int{0x0102}, api.Form{Bits: 16}, "", api.ErrEnd}, {[]int{0x4102}, api.Form{Bits: 16}, "", api.ErrEnd}, {[]int{0x4104, 0x42}, api.Form{Bits: 16}, "", api.ErrEnd}, {[]int{0x034142}, api.Form{Bits: 24, Big: true}, "", api.ErrEnd}, {[]int{0x04414243}, api.Form{Bits: 32, Big: true}, "", api.ErrEnd}, {[]int{-1, -1}, api.Form{Bits: 32}, "", api.ErrEnd},
		{nil, api.Form{Bits: 8}, "", api.ErrForm}, {[]int{0}, api.Form{Bits: 64, Big: true}, "", api.ErrForm},
	} {
		if s, e := word.Unpack(x.words, x.f); s != x.want || e != x.wantErr {
			t.Errorf("Unpack(%x, %v) = %q, %d; want %q, %d", x.words, x.f, s, e, x.want, x.wantErr)
		}
	}
}

func TestUnpackReachesJustForTheLength(t *testing.T) {
	for _, f := range forms() {
		for n := range 256 {
			w, _ := word.Pack(text(n), f)
			if s, e := word.Unpack(w[:len(w)-1], f); s != "" || e != api.ErrEnd {
				t.Errorf("Unpack of %d bytes by %v without the last word = %q, %d", n, f, s, e)
			}
		}
	}
}

// P1.6

func TestBytesAndWords(t *testing.T) {
	for _, x := range []struct {
		words []int
		f     api.Form
		bytes []byte
	}{
		{nil, api.Form{Bits: 16}, nil}, {[]int{0x0102, -2}, api.Form{Bits: 16, Big: true}, []byte{1, 2, 255, 254}}, {[]int{0x0102, -2}, api.Form{Bits: 16}, []byte{2, 1, 254, 255}}, {[]int{-32768}, api.Form{Bits: 16}, []byte{0, 128}},
		{[]int{0x010203}, api.Form{Bits: 24}, []byte{3, 2, 1}}, {[]int{0x010203, -8388608}, api.Form{Bits: 24, Big: true}, []byte{1, 2, 3, 128, 0, 0}},
		{[]int{0x01020304}, api.Form{Bits: 32, Big: true}, []byte{1, 2, 3, 4}}, {[]int{0x01020304, -2147483648}, api.Form{Bits: 32}, []byte{4, 3, 2, 1, 0, 0, 0, 128}},
	} {
		if b, e := word.Bytes(x.words, x.f); !slices.Equal(b, x.bytes) || e != api.OK {
			t.Errorf("Bytes(%x, %v) = %x, %d; want %x", x.words, x.f, b, e, x.bytes)
		}
		if w, e := word.Words(x.bytes, x.f); !slices.Equal(w, x.words) || e != api.OK {
			t.Errorf("Words(%x, %v) = %x, %d; want %x", x.bytes, x.f, w, e, x.words)
		}
	}
}

func TestBytesOfAnyInt(t *testing.T) {
	for _, f := range forms() {
		b, e := word.Bytes(numbers(), f)
		if want := modelBytes(numbers(), f); !slices.Equal(b, want) || e != api.OK {
			t.Errorf("Bytes by %v = %x, %d; want %x", f, b, e, want)
		}
	}
}

func TestBytesAndWordsErrors(t *testing.T) {
	for _, f := range forms() {
		for n := range 13 {
			want := api.OK
			if n%(f.Bits/8) != 0 {
				want = api.ErrForm
			}
			if w, e := word.Words(make([]byte, n), f); e != want || e != api.OK && w != nil {
				t.Errorf("Words of %d bytes by %v = %x, %d", n, f, w, e)
			}
		}
	}
	for _, f := range noForms() {
		if b, e := word.Bytes([]int{1}, f); b != nil || e != api.ErrForm {
			t.Errorf("Bytes by %v = %x, %d", f, b, e)
		}
		if w, e := word.Words([]byte{1, 2, 3, 4}, f); w != nil || e != api.ErrForm {
			t.Errorf("Words by %v = %x, %d", f, w, e)
		}
		if b, e := word.GetByte([]int{1}, 0, f); b != 0 || e != api.ErrForm {
			t.Errorf("GetByte by %v = %d, %d", f, b, e)
		}
		if w, e := word.PutByte([]int{1}, 0, 1, f); w != nil || e != api.ErrForm {
			t.Errorf("PutByte by %v = %x, %d", f, w, e)
		}
		if s, e := word.Unpack([]int{0}, f); s != "" || e != api.ErrForm {
			t.Errorf("Unpack by %v = %q, %d", f, s, e)
		}
	}
}

// P1.8

func TestUnpackOfPack(t *testing.T) {
	for _, f := range forms() {
		for n := range 256 {
			w, _ := word.Pack(text(n), f)
			if s, e := word.Unpack(w, f); s != text(n) || e != api.OK {
				t.Errorf("Unpack of Pack of %q by %v = %q, %d", text(n), f, s, e)
			}
		}
	}
}

func TestWordsOfBytes(t *testing.T) {
	for _, f := range forms() {
		b, _ := word.Bytes(numbers(), f)
		if w, e := word.Words(b, f); !slices.Equal(w, modelWords(numbers(), f)) || e != api.OK {
			t.Errorf("Words of Bytes by %v = %x, %d", f, w, e)
		}
		all := []byte(text(256 * 3))
		w, _ := word.Words(all, f)
		if back, e := word.Bytes(w, f); !slices.Equal(back, all) || e != api.OK {
			t.Errorf("Bytes of Words by %v = %x, %d", f, back, e)
		}
	}
}

func TestAByteThatWasPutIsGot(t *testing.T) {
	words := []int{0x01234567, -1, 0, -2147483648, math.MaxInt, math.MinInt}
	for _, f := range forms() {
		before := modelBytes(words, f)
		for i := range before {
			for _, v := range []int{0, 1, 0x7f, 0x80, 0xff, 0x1a5, -1, math.MinInt, math.MaxInt} {
				w, _ := word.PutByte(words, i, v, f)
				for j := range before {
					want := before[j]
					if j == i {
						want = byte(v)
					}
					if b, e := word.GetByte(w, j, f); b != int(want) || e != api.OK {
						t.Errorf("byte %d behind PutByte(.., %d, %d, %v) = %d, %d; want %d", j, i, v, f, b, e, want)
					}
				}
			}
		}
	}
}

// R4

func TestArgumentsAreNeitherChangedNorKept(t *testing.T) {
	for _, f := range forms() {
		words := []int{0x10203, -70000, math.MaxInt}
		b := []byte(text(12))
		put, _ := word.PutByte(words, 1, 77, f)
		word.GetByte(words, 1, f)
		word.Unpack(words, f)
		word.Bytes(words, f)
		word.Words(b, f)
		put[2] = 5
		if !slices.Equal(words, []int{0x10203, -70000, math.MaxInt}) || string(b) != text(12) {
			t.Errorf("by %v an argument became %x, %x", f, words, b)
		}
	}
}

func TestListsAreReadUpToTheirLength(t *testing.T) {
	f := api.Form{Bits: 16}
	words := []int{0x4102, 0x42}[:1]
	if s, e := word.Unpack(words, f); s != "" || e != api.ErrEnd {
		t.Errorf("Unpack = %q, %d", s, e)
	}
	if b, e := word.GetByte(words, 2, f); b != 0 || e != api.ErrRange {
		t.Errorf("GetByte = %d, %d", b, e)
	}
	if w, e := word.PutByte(words, 2, 1, f); w != nil || e != api.ErrRange {
		t.Errorf("PutByte = %x, %d", w, e)
	}
}
