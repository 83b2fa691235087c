package parse

import "bluebell/api"

// item writes a command, or another item of a block. Where a command ends, nothing is needed to tell it from what follows.
func (w *writer) item(n api.Node) {
	switch n.Op {
	case api.CIf:
		w.guarded("if", n)
	case api.CUnless:
		w.guarded("unless", n)
	case api.CWhile:
		w.guarded("while", n)
	case api.CUntil:
		w.guarded("until", n)
	case api.CTest:
		w.put("test")
		w.part(n.L[0])
		w.put("then")
		w.item(n.L[1])
		w.put("else")
		w.item(n.L[2])
	case api.CFor:
		w.counted(n)
	case api.CSwitch:
		w.put("switchon")
		w.part(n.L[0])
		w.put("into")
		w.item(n.L[1])
	case api.CCase:
		w.put("case")
		w.part(n.L[0])
		w.put(":")
		w.item(n.L[1])
	case api.CDefault:
		w.put("default", ":")
		w.item(n.L[0])
	case api.CLabel:
		w.put(n.S, ":")
		w.item(n.L[0])
	case api.CRepeat, api.CRepWh, api.CRepUn:
		w.repeated(n)
	case api.CLet:
		w.put("let")
		w.pairs(n, "=")
	case api.CVec:
		w.put("let", n.S, "=", "vec")
		w.part(n.L[0])
	default:
		w.basic(n)
	}
}

func (w *writer) guarded(key string, n api.Node) {
	w.put(key)
	w.part(n.L[0])
	w.put("do")
	w.item(n.L[1])
}

func (w *writer) counted(n api.Node) {
	w.put("for", n.S, "=")
	w.part(n.L[0])
	w.put("to")
	w.part(n.L[1])
	if n.N == 1 {
		w.put("by")
		w.part(n.L[2])
	}
	w.put("do")
	w.item(n.L[len(n.L)-1])
}

func (w *writer) repeated(n api.Node) {
	w.item(n.L[0])
	switch n.Op {
	case api.CRepeat:
		w.put("repeat")
	case api.CRepWh:
		w.put("repeatwhile")
		w.part(n.L[1])
	case api.CRepUn:
		w.put("repeatuntil")
		w.part(n.L[1])
	}
}

// pairs writes N parts, a sign, and the parts that belong to them.
func (w *writer) pairs(n api.Node, sign string) {
	w.list(n.L[:n.N], ",", w.part)
	w.put(sign)
	w.list(n.L[n.N:], ",", w.part)
}

func (w *writer) basic(n api.Node) {
	switch n.Op {
	case api.CAssign:
		w.pairs(n, ":=")
	case api.CCall:
		w.part(n.L[0])
	case api.CBlock:
		w.put("{")
		w.list(n.L, ";", w.item)
		w.put("}")
	case api.CBreak:
		w.put("break")
	case api.CLoop:
		w.put("loop")
	case api.CEndcase:
		w.put("endcase")
	case api.CReturn:
		w.put("return")
	case api.CFinish:
		w.put("finish")
	case api.CResult:
		w.put("resultis")
		w.part(n.L[0])
	case api.CGoto:
		w.put("goto", n.S)
	}
}
