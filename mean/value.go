package mean

import (
	"bluebell/api"
	"bluebell/word"
)

// value is what an expression gives and a cell has: a number, an address, a *procedure, or nil, which is nothing. A cell of bytes has a *packed instead, which no expression gives.
type value any

// number is a word of the form.
type number int

// address is an offset in an object, whether there is a cell or not.
type address struct {
	of *object
	at int
}

// procedure is one of the section, or a given one. What begins a call may rely on the number of its arguments.
type procedure struct {
	name   string
	params int
	begin  func(r *run, args []value) value
}

// isThere reports whether an address is that of a cell.
func (a address) isThere() bool {
	return !a.of.ended && 0 <= a.at && a.at < len(a.of.cells)
}

// isWithin reports whether an address is that of a cell or one behind all cells, whether the object goes on or not.
func (a address) isWithin() bool {
	return 0 <= a.at && a.at <= len(a.of.cells)
}

func (a address) plus(n number) address {
	return address{a.of, a.at + int(n)}
}

// numberOf takes a value that has to be a number.
func numberOf(v value) number {
	n, ok := v.(number)
	if !ok {
		panic(wild())
	}
	return n
}

// addressOf takes a value that has to be an address.
func addressOf(v value) address {
	a, ok := v.(address)
	if !ok {
		panic(wild())
	}
	return a
}

// reach adds an address and a number, either way.
func reach(a, b value) address {
	switch x := a.(type) {
	case address:
		return x.plus(numberOf(b))
	case number:
		return addressOf(b).plus(x)
	}
	panic(wild())
}

// isTrue tells whether a condition holds.
func (r *run) isTrue(v value) bool {
	if n, ok := v.(number); ok {
		return n != 0
	}
	r.checkThing(v)
	return true
}

// operate applies an operator with two operands.
func (r *run) operate(op int, a, b value) value {
	switch x := a.(type) {
	case number:
		switch y := b.(type) {
		case number:
			return r.apply(op, x, y)
		case address:
			if op == api.Add {
				return y.plus(x)
			}
		}
	case address:
		switch y := b.(type) {
		case number:
			switch op {
			case api.Add:
				return x.plus(y)
			case api.Sub:
				return x.plus(-y)
			}
		case address:
			if x.of == y.of {
				return r.operateOffsets(op, x, y)
			}
		}
	}
	return r.operateThings(op, a, b)
}

// apply applies an operator to numbers.
func (r *run) apply(op int, a, b number) number {
	w, err := word.Apply(op, int(a), int(b), r.form.Bits)
	if err != api.OK {
		panic(fault(err))
	}
	if r.narrow {
		r.narrow, _ = word.Exact(op, int(a), int(b), r.form.Bits)
	}
	return number(w)
}

// normed returns a whole number as a word of a form.
func normed(v int, f api.Form) number {
	w, _ := word.Norm(v, f.Bits)
	return number(w)
}

// operateOffsets tells a difference or a relation of two addresses of one object.
func (r *run) operateOffsets(op int, a, b address) value {
	if op != api.Sub && (op < api.Eq || op > api.Ge) || !a.isWithin() || !b.isWithin() {
		panic(wild())
	}
	r.keepBeginning(a)
	r.keepBeginning(b)
	return r.apply(op, number(a.at), number(b.at))
}

// operateThings tells whether two things are the same, of which one may be 0. Two addresses are of two objects.
func (r *run) operateThings(op int, a, b value) value {
	if op != api.Eq && op != api.Ne {
		panic(wild())
	}
	r.checkThingOrZero(a)
	r.checkThingOrZero(b)
	p, isProcedure := a.(*procedure)
	q, areProcedures := b.(*procedure)
	areSame := isProcedure && areProcedures && p == q
	return truth(areSame == (op == api.Eq))
}

// checkThing takes a value that has to be a procedure, or an address that is there.
func (r *run) checkThing(v value) {
	switch x := v.(type) {
	case *procedure:
		return
	case address:
		if x.isThere() {
			r.keepBeginning(x)
			return
		}
	}
	panic(wild())
}

func (r *run) checkThingOrZero(v value) {
	if n, ok := v.(number); !ok || n != 0 {
		r.checkThing(v)
	}
}

func truth(holds bool) number {
	if holds {
		return -1
	}
	return 0
}
