package ocode

import (
	"bluebell/api"
	"bluebell/word"
)

// mostWords returns how many words areas have by 16 bits; by longer words a text has fewer.
func mostWords(l []api.Data) int {
	words := 0
	for _, d := range l {
		if d.IsText {
			words += (len(d.Text) + 2) / 2
		} else {
			words += len(d.Words)
		}
	}
	return words
}

// Words is described in P6.5.
func Words(d api.Data, f api.Form) ([]int, api.Errno) {
	if d.IsText {
		return word.Pack(d.Text, f)
	}
	if !word.Valid(f) {
		return nil, api.ErrForm
	}
	l := make([]int, len(d.Words))
	for i, n := range d.Words {
		l[i], _ = word.Norm(n, f.Bits)
	}
	return l, api.OK
}

// Layout is described in P6.5.
func Layout(c api.Code, f api.Form) ([]int, int, api.Errno) {
	if err := Check(c); err != api.OK {
		return nil, 0, err
	}
	if !word.Valid(f) {
		return nil, 0, api.ErrForm
	}
	places := make([]int, len(c.Data))
	at := api.GlobalSize
	for i, d := range c.Data {
		words, _ := Words(d, f) // no error is left: Check lets no text be too long
		places[i] = at
		at += len(words)
	}
	// Check has told it already, as long as StackBase is where StaticSize words end.
	if at > api.StackBase {
		return nil, 0, api.ErrLimit
	}
	return places, at, api.OK
}
