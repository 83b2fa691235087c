package scope

import (
	"bluebell/api"
	"bluebell/parse"
	"bluebell/word"
)

const (
	constantBits = 32
	shiftUnit    = 32   // what a shift of 1 adds to a selector
	offsetUnit   = 1024 // what an offset of 1 adds
	mostBits     = 16   // of a size, a shift, and both together
	mostOffset   = 255
)

// meaning returns the value that a name has in a constant expression, or what is wrong with the name.
type meaning func(name string) (int, api.Errno)

// compute computes a constant expression, operands first and from the left. The first part that is wrong tells.
func (m meaning) compute(n api.Node) (int, problem) {
	switch n.Op {
	case api.ENum:
		return n.N, problem{}
	case api.ETrue:
		return -1, problem{}
	case api.EFalse:
		return 0, problem{}
	case api.EName:
		value, err := m(n.S)
		return result(n, value, err)
	case api.EBin, api.EUn, api.ESlct:
		return m.combine(n)
	case api.ECond:
		return m.choose(n)
	}
	return 0, problemAt(n, api.ErrConst)
}

// result returns a node's value, or its error with the place of the node.
func result(n api.Node, value int, err api.Errno) (int, problem) {
	if err != api.OK {
		return 0, problemAt(n, err)
	}
	return value, problem{}
}

// combine computes a node that needs all its parts.
func (m meaning) combine(n api.Node) (int, problem) {
	var parts [3]int
	for i, part := range n.L {
		value, p := m.compute(part)
		if p.err != api.OK {
			return 0, p
		}
		parts[i] = value
	}
	if n.Op == api.ESlct {
		value, err := selector(parts[0], parts[1], parts[2])
		return result(n, value, err)
	}
	value, err := word.Apply(n.N, parts[0], parts[1], constantBits)
	return result(n, value, err)
}

// choose computes a conditional: the part that is not taken need not be constant.
func (m meaning) choose(n api.Node) (int, problem) {
	condition, p := m.compute(n.L[0])
	if p.err != api.OK {
		return 0, p
	}
	if condition != 0 {
		return m.compute(n.L[1])
	}
	return m.compute(n.L[2])
}

// selector puts a selector together.
func selector(size, shift, offset int) (int, api.Errno) {
	if !isSelector(size, shift, offset) {
		return 0, api.ErrRange
	}
	return size + shiftUnit*shift + offsetUnit*offset, api.OK
}

func isSelector(size, shift, offset int) bool {
	return size >= 0 && shift >= 0 && size+shift <= mostBits && offset >= 0 && offset <= mostOffset
}

// Selector is described in P4.3.
func Selector(n int) (size, shift, offset int, err api.Errno) {
	// Of a number below 0 at least one part is below 0.
	size, shift, offset = n%shiftUnit, n%offsetUnit/shiftUnit, n/offsetUnit
	if !isSelector(size, shift, offset) {
		return 0, 0, 0, api.ErrRange
	}
	return size, shift, offset, api.OK
}

// Eval is described in P4.3.
func Eval(n api.Node, l []Top) (int, api.Errno) {
	if err := parse.CheckExpr(n); err != api.OK {
		return 0, err
	}
	value, p := meaning(func(name string) (int, api.Errno) {
		return manifestOf(l, name)
	}).compute(n)
	return value, p.err
}

// manifestOf returns the value of the first manifest of a name, as a word.
func manifestOf(l []Top, name string) (int, api.Errno) {
	for _, t := range l {
		if t.Kind == Manifest && t.Name == name {
			return word.Norm(t.N, constantBits)
		}
	}
	return 0, api.ErrConst
}
