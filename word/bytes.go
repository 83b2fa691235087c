package word

import "bluebell/api"

const maxPacked = 255 // the greatest length that one byte tells

// GetByte is described in P1.4.
func GetByte(words []int, i int, f api.Form) (int, api.Errno) {
	if err := checkByte(words, i, f); err != api.OK {
		return 0, err
	}
	return int(byteAt(words, i, f)), api.OK
}

// PutByte is described in P1.4.
func PutByte(words []int, i, v int, f api.Form) ([]int, api.Errno) {
	if err := checkByte(words, i, f); err != api.OK {
		return nil, err
	}
	out := make([]int, len(words))
	copy(out, words)
	low, at := below(i, f), i/size(f)
	out[at] = out[at]&^(0xff<<low) | int(byte(v))<<low
	normAll(out, f)
	return out, api.OK
}

// Pack is described in P1.5.
func Pack(s string, f api.Form) ([]int, api.Errno) {
	if !Valid(f) {
		return nil, api.ErrForm
	}
	if len(s) > maxPacked {
		return nil, api.ErrLimit
	}
	n := size(f)
	words := (1 + len(s) + n - 1) / n
	b := make([]byte, words*n)
	b[0] = byte(len(s))
	copy(b[1:], s)
	return wordsOf(b, f), api.OK
}

// Unpack is described in P1.5.
func Unpack(words []int, f api.Form) (string, api.Errno) {
	if !Valid(f) {
		return "", api.ErrForm
	}
	if len(words) == 0 {
		return "", api.ErrEnd
	}
	length := int(byteAt(words, 0, f))
	if 1+length > len(words)*size(f) {
		return "", api.ErrEnd
	}
	b := make([]byte, length)
	for i := range length {
		b[i] = byteAt(words, 1+i, f)
	}
	return string(b), api.OK
}

// Bytes is described in P1.6.
func Bytes(words []int, f api.Form) ([]byte, api.Errno) {
	if !Valid(f) {
		return nil, api.ErrForm
	}
	b := make([]byte, len(words)*size(f))
	for i := range len(b) {
		b[i] = byteAt(words, i, f)
	}
	return b, api.OK
}

// Words is described in P1.6.
func Words(b []byte, f api.Form) ([]int, api.Errno) {
	if !Valid(f) || len(b)%size(f) != 0 {
		return nil, api.ErrForm
	}
	return wordsOf(b, f), api.OK
}

// wordsOf takes the bytes of whole words only.
func wordsOf(b []byte, f api.Form) []int {
	n := size(f)
	words := make([]int, len(b)/n)
	for i := range len(b) {
		words[i/n] |= int(b[i]) << below(i, f)
	}
	normAll(words, f)
	return words
}

func normAll(words []int, f api.Form) {
	for i := range len(words) {
		words[i] = normed(words[i], f.Bits)
	}
}

func checkByte(words []int, i int, f api.Form) api.Errno {
	if !Valid(f) {
		return api.ErrForm
	}
	if i < 0 || i/size(f) >= len(words) {
		return api.ErrRange
	}
	return api.OK
}

// byteAt need not norm the word: norming changes only bits above its bytes.
func byteAt(words []int, i int, f api.Form) byte {
	return byte(words[i/size(f)] >> below(i, f))
}

// below is how many bits of its word are lower than those of byte i.
func below(i int, f api.Form) int {
	place := i % size(f)
	if f.Big {
		place = size(f) - 1 - place
	}
	return 8 * place
}

// size is how many bytes make a word.
func size(f api.Form) int {
	return f.Bits / 8
}
