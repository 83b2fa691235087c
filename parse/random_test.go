package parse_test

import (
	"math/rand"

	"bluebell/api"
)

// maker makes valid trees, always the same ones.
type maker struct {
	*rand.Rand
}

func newMaker(seed int64) maker {
	return maker{rand.New(rand.NewSource(seed))}
}

// one returns one of some ops.
func (m maker) one(ops ...int) int {
	return ops[m.Intn(len(ops))]
}

func (m maker) name() string {
	return []string{"a", "b", "c1", "x_y", "iff", "vec_", "abcdefghijklmnopqrstuvwx"}[m.Intn(7)]
}

func (m maker) text() string {
	return []string{"", "a", "it's", "*n", "\n\t\"", "// a", "( "}[m.Intn(7)]
}

func (m maker) exprs(levels, count int) []api.Node {
	var l []api.Node
	for range count {
		l = append(l, m.expr(levels))
	}
	return l
}

func (m maker) leaf() api.Node {
	switch op := m.one(api.ENum, api.EStr, api.ETrue, api.EFalse, api.EAny, api.EName, api.EName); op {
	case api.ENum:
		return num([]int{0, 1, 255, 1<<31 - 1, -1, -1 << 31}[m.Intn(6)])
	case api.EStr:
		return str(m.text())
	case api.EName:
		return name(m.name())
	default:
		return node(op)
	}
}

// expr returns an expression of at most so many levels.
func (m maker) expr(levels int) api.Node {
	if levels < 2 || m.Intn(6) == 0 {
		return m.leaf()
	}
	below := levels - 1
	switch op := m.one(api.EBin, api.EBin, api.EBin, api.EBin, api.EUn, api.EUn, api.ESub, api.EByte, api.ESel, api.ELoad, api.EAddr, api.ECall, api.ECall, api.ECond, api.ECond, api.ETable, api.ESlct, api.EValof); op {
	case api.EBin:
		return api.Node{Op: op, N: api.Mul + m.Intn(api.Ge-api.Mul+1), L: m.exprs(below, 2)}
	case api.EUn:
		return api.Node{Op: op, N: m.one(api.Neg, api.Not), L: m.exprs(below, 1)}
	case api.ELoad, api.EAddr:
		return node(op, m.exprs(below, 1)...)
	case api.ECall:
		return m.call(levels)
	case api.ECond, api.ESlct:
		return node(op, m.exprs(below, 3)...)
	case api.ETable:
		return node(op, m.exprs(below, 1+m.Intn(3))...)
	case api.EValof:
		return node(op, m.block(below))
	default:
		return node(op, m.exprs(below, 2)...)
	}
}

func (m maker) call(levels int) api.Node {
	return node(api.ECall, m.exprs(levels-1, 1+m.Intn(4))...)
}

func (m maker) block(levels int) api.Node {
	n := node(api.CBlock)
	for range 1 + m.Intn(3) {
		n.L = append(n.L, m.item(levels-1))
	}
	return n
}

func (m maker) item(levels int) api.Node {
	if levels < 2 || m.Intn(3) > 0 {
		return m.command(levels)
	}
	if m.Intn(2) == 0 {
		return api.Node{Op: api.CVec, S: m.name(), L: m.exprs(levels-1, 1)}
	}
	n := api.Node{Op: api.CLet, N: 1 + m.Intn(3)}
	for range n.N {
		n.L = append(n.L, name(m.name()))
	}
	n.L = append(n.L, m.exprs(levels-1, n.N)...)
	return n
}

// command returns a command of at most so many levels, but for one that is a call at its least.
func (m maker) command(levels int) api.Node {
	if levels < 3 {
		op := m.one(api.CNull, api.CNull, api.CGoto, api.CBreak)
		if op == api.CGoto {
			return api.Node{Op: op, S: m.name()}
		}
		return node(op)
	}
	below := levels - 1
	switch op := m.one(api.CIf, api.CUnless, api.CWhile, api.CUntil, api.CCase, api.CTest, api.CFor, api.CSwitch, api.CDefault, api.CLabel, api.CNull, api.CBlock, api.CBlock, api.CAssign, api.CRepeat); op {
	case api.CIf, api.CUnless, api.CWhile, api.CUntil, api.CCase:
		return node(op, m.expr(below), m.command(below))
	case api.CTest:
		return node(op, m.expr(below), m.command(below), m.command(below))
	case api.CFor:
		n := api.Node{Op: op, S: m.name(), N: m.Intn(2)}
		n.L = append(m.exprs(below, 2+n.N), m.command(below))
		return n
	case api.CSwitch:
		return node(op, m.expr(below), m.block(below))
	case api.CDefault:
		return node(op, m.command(below))
	case api.CLabel:
		return api.Node{Op: op, S: m.name(), L: []api.Node{m.command(below)}}
	case api.CNull:
		return node(op)
	default:
		return m.basic(levels)
	}
}

// basic returns what may stand before repeat.
func (m maker) basic(levels int) api.Node {
	if levels < 3 {
		return node(m.one(api.CBreak, api.CLoop, api.CEndcase, api.CReturn, api.CFinish))
	}
	below := levels - 1
	switch op := m.one(api.CAssign, api.CCall, api.CCall, api.CBlock, api.CResult, api.CGoto, api.CRepeat, api.CRepWh, api.CRepUn); op {
	case api.CAssign:
		n := api.Node{Op: op, N: 1 + m.Intn(3)}
		n.L = m.exprs(below, 2*n.N)
		return n
	case api.CCall:
		return node(op, m.call(below))
	case api.CBlock:
		return m.block(levels)
	case api.CResult:
		return node(op, m.expr(below))
	case api.CGoto:
		return api.Node{Op: op, S: m.name()}
	case api.CRepeat:
		return node(op, m.basic(below))
	default:
		return node(op, m.basic(below), m.expr(below))
	}
}

func (m maker) decl(levels int) api.Node {
	op := m.one(api.DManifest, api.DStatic, api.DGlobal, api.DProc, api.DProc, api.DProc)
	if op == api.DProc {
		n := api.Node{Op: op, S: m.name(), N: m.Intn(2)}
		for range m.Intn(4) {
			n.L = append(n.L, name(m.name()))
		}
		if n.N == 0 {
			n.L = append(n.L, m.expr(levels-1))
		} else {
			n.L = append(n.L, m.command(levels-1))
		}
		return n
	}
	n := node(op)
	for range m.Intn(4) {
		n.L = append(n.L, api.Node{Op: api.DConst, S: m.name(), L: m.exprs(levels-2, 1)})
	}
	return n
}

func (m maker) section(levels int) api.Section {
	var s api.Section
	if m.Intn(2) == 0 {
		s.Name = m.text()
	}
	for range m.Intn(5) {
		s.Decls = append(s.Decls, m.decl(levels))
	}
	return s
}

// wrong changes a tree at one place, at which it may become one that no source gives.
func (m maker) wrong(n api.Node) api.Node {
	n = copied(n)
	at := &n
	for len(at.L) > 0 && m.Intn(4) > 0 {
		at = &at.L[m.Intn(len(at.L))]
	}
	switch m.Intn(7) {
	case 0:
		at.Op = m.Intn(66)
	case 1:
		at.N += []int{-1, 1, 2, 17, 1 << 32, -at.N}[m.Intn(6)]
	case 2:
		at.S = []string{"", "a", "if", "A", "a b", "1", "\x00", "*"}[m.Intn(8)]
	case 3:
		at.L = at.L[:max(0, len(at.L)-1)]
	case 4:
		at.L = append(at.L, m.other())
	case 5:
		if len(at.L) > 0 {
			at.L[m.Intn(len(at.L))] = m.other()
		}
	case 6:
		*at = m.other()
	}
	return n
}

// other returns a tree of any kind.
func (m maker) other() api.Node {
	switch m.Intn(7) {
	case 0:
		return m.expr(3)
	case 1:
		return m.command(3)
	case 2:
		return m.item(3)
	case 3:
		return m.basic(3)
	case 4:
		return m.block(3)
	case 5:
		return m.decl(4)
	}
	return api.Node{Op: api.DConst, S: m.name(), L: m.exprs(2, 1)}
}
