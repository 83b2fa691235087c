package parse

import "bluebell/api"

// Levels of the grammar: e is 0, e1 to e10 are 1 to 10; the two others stand for the two ways of e10 to go on with e11. An expression of a level stands without parentheses wherever the grammar takes this level or one below.
const (
	levelWhole    = 0
	levelFirst    = 1
	levelNot      = 4
	levelRelation = 5
	levelSum      = 7
	levelPrefix   = 10
	levelCall     = 11
	levelSimple   = 12
)

// operator is an operator between two parts: how it is written, the node that it makes, and the level of this node.
type operator struct {
	text  string
	op, n int
	level int
}

var operators = []operator{
	{"xor", api.EBin, api.Xor, 1},
	{"eqv", api.EBin, api.Eqv, 1},
	{"|", api.EBin, api.Or, 2},
	{"&", api.EBin, api.And, 3},
	{"=", api.EBin, api.Eq, levelRelation},
	{"~=", api.EBin, api.Ne, levelRelation},
	{"<", api.EBin, api.Lt, levelRelation},
	{"<=", api.EBin, api.Le, levelRelation},
	{">", api.EBin, api.Gt, levelRelation},
	{">=", api.EBin, api.Ge, levelRelation},
	{"<<", api.EBin, api.Shl, 6},
	{">>", api.EBin, api.Shr, 6},
	{"+", api.EBin, api.Add, levelSum},
	{"-", api.EBin, api.Sub, levelSum},
	{"*", api.EBin, api.Mul, 8},
	{"/", api.EBin, api.Div, 8},
	{"rem", api.EBin, api.Rem, 8},
	{"!", api.ESub, 0, 9},
	{"%", api.EByte, 0, 9},
	{"of", api.ESel, 0, 9},
}

// operatorAt returns the operator of a level that a token is.
func operatorAt(t api.Token, level int) (operator, bool) {
	for _, o := range operators {
		if o.level == level && isFixed(t, o.text) {
			return o, true
		}
	}
	return operator{}, false
}

// operatorOf returns the operator of a node.
func operatorOf(n api.Node) (operator, bool) {
	for _, o := range operators {
		if o.op == n.Op && o.n == n.N {
			return o, true
		}
	}
	return operator{}, false
}

// leftLevel is the level of an operator's left part: operators of one level go from the left, but only one relation may stand at its level.
func (o operator) leftLevel() int {
	if o.level == levelRelation {
		return o.level + 1
	}
	return o.level
}

func (o operator) rightLevel() int {
	return o.level + 1
}

// levelOf returns the level of an expression.
func levelOf(n api.Node) int {
	if o, ok := operatorOf(n); ok {
		return o.level
	}
	switch n.Op {
	case api.ECond:
		return levelWhole
	case api.EUn:
		if n.N == api.Not {
			return levelNot
		}
		return levelSum
	case api.ELoad, api.EAddr:
		return levelPrefix
	case api.ECall:
		return levelCall
	}
	return levelSimple
}
