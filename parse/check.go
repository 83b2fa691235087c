package parse

import (
	"math"

	"bluebell/api"
	"bluebell/lex"
)

// Check is described in P3.2.
func Check(s api.Section) api.Errno {
	if !isQuotable(s.Name) || !areAll(s.Decls, isDeclaration) {
		return api.ErrForm
	}
	return withinLimits(s.Decls)
}

// CheckExpr is described in P3.2.
func CheckExpr(n api.Node) api.Errno {
	return checkNode(n, isExpression)
}

// checkNode checks a tree that has to be of one kind.
func checkNode(n api.Node, isKind predicate) api.Errno {
	if !isKind(n) {
		return api.ErrForm
	}
	return withinLimits([]api.Node{n})
}

// withinLimits checks trees of the right form.
func withinLimits(l []api.Node) api.Errno {
	if !areAll(l, hasNotTooMany) || Size(l) > api.MaxNodes {
		return api.ErrLimit
	}
	for _, n := range l {
		if Levels(n) > api.MaxNest {
			return api.ErrDeep
		}
	}
	return api.OK
}

// hasNotTooMany reports whether a tree has nowhere more parts than it may.
func hasNotTooMany(n api.Node) bool {
	count, most := 0, 0
	switch n.Op {
	case api.ECall, api.DProc:
		count, most = len(n.L), 1+api.MaxArgs
	case api.CLet, api.CAssign:
		count, most = n.N, api.MaxArgs
	case api.ETable:
		count, most = len(n.L), api.MaxString
	}
	return count <= most && areAll(n.L, hasNotTooMany)
}

// predicate tells whether a tree is of a kind, and its parts of the kinds that it takes.
type predicate func(n api.Node) bool

func areAll(l []api.Node, isKind predicate) bool {
	for _, n := range l {
		if !isKind(n) {
			return false
		}
	}
	return true
}

// has reports whether a node has these parts and no others.
func has(n api.Node, kinds ...predicate) bool {
	if len(n.L) != len(kinds) {
		return false
	}
	for i, isKind := range kinds {
		if !isKind(n.L[i]) {
			return false
		}
	}
	return true
}

// hasSome reports whether a node has at least one part, and all of a kind.
func hasSome(n api.Node, isKind predicate) bool {
	return len(n.L) > 0 && areAll(n.L, isKind)
}

// hasPairs reports whether a node has N parts of one kind, at least one, and as many expressions behind them.
func hasPairs(n api.Node, isLeft predicate) bool {
	half := len(n.L) / 2
	return n.N > 0 && n.N == half && len(n.L)%2 == 0 && areAll(n.L[:half], isLeft) && areAll(n.L[half:], isExpression)
}

// isPlain reports whether a node has nothing but parts.
func isPlain(n api.Node) bool {
	return n.S == "" && n.N == 0
}

// isNamed reports whether a node has nothing but a name and parts.
func isNamed(n api.Node) bool {
	return lex.IsName(n.S) && n.N == 0
}

func isName(n api.Node) bool {
	return n.Op == api.EName && isNamed(n) && has(n)
}

func isQuotable(s string) bool {
	_, err := lex.Quote(s)
	return err == api.OK
}

func isExpression(n api.Node) bool {
	switch n.Op {
	case api.ENum:
		return n.S == "" && math.MinInt32 <= n.N && n.N <= math.MaxInt32 && has(n)
	case api.EStr:
		return isQuotable(n.S) && n.N == 0 && has(n)
	case api.EName:
		return isName(n)
	case api.EBin:
		return n.S == "" && api.Mul <= n.N && n.N <= api.Ge && has(n, isExpression, isExpression)
	case api.EUn:
		return n.S == "" && (n.N == api.Neg || n.N == api.Not) && has(n, isExpression)
	}
	return isPlain(n) && isPlainExpression(n)
}

// isPlainExpression tells expressions that have nothing but parts.
func isPlainExpression(n api.Node) bool {
	switch n.Op {
	case api.ETrue, api.EFalse, api.EAny:
		return has(n)
	case api.ECall, api.ETable:
		return hasSome(n, isExpression)
	case api.ESub, api.EByte, api.ESel:
		return has(n, isExpression, isExpression)
	case api.ELoad, api.EAddr:
		return has(n, isExpression)
	case api.ECond, api.ESlct:
		return has(n, isExpression, isExpression, isExpression)
	case api.EValof:
		return has(n, isBlock)
	}
	return false
}

func isCall(n api.Node) bool {
	return n.Op == api.ECall && isExpression(n)
}

func isBlock(n api.Node) bool {
	return n.Op == api.CBlock && isPlain(n) && hasSome(n, isItem)
}

func isItem(n api.Node) bool {
	switch n.Op {
	case api.CLet:
		return n.S == "" && hasPairs(n, isName)
	case api.CVec:
		return isNamed(n) && has(n, isExpression)
	}
	return isCommand(n)
}

func isCommand(n api.Node) bool {
	switch n.Op {
	case api.CFor:
		return isFor(n)
	case api.CLabel:
		return isNamed(n) && has(n, isCommand)
	case api.CIf, api.CUnless, api.CWhile, api.CUntil, api.CCase:
		return isPlain(n) && has(n, isExpression, isCommand)
	case api.CTest:
		return isPlain(n) && has(n, isExpression, isCommand, isCommand)
	case api.CSwitch:
		return isPlain(n) && has(n, isExpression, isBlock)
	case api.CDefault:
		return isPlain(n) && has(n, isCommand)
	case api.CNull:
		return isPlain(n) && has(n)
	}
	return isRepeatable(n)
}

func isFor(n api.Node) bool {
	if !lex.IsName(n.S) {
		return false
	}
	switch n.N {
	case 0:
		return has(n, isExpression, isExpression, isCommand)
	case 1:
		return has(n, isExpression, isExpression, isExpression, isCommand)
	}
	return false
}

// isRepeatable tells what may stand before repeat and its like: a basic, or one of these.
func isRepeatable(n api.Node) bool {
	switch n.Op {
	case api.CAssign:
		return n.S == "" && hasPairs(n, isExpression)
	case api.CCall:
		return isPlain(n) && has(n, isCall)
	case api.CBlock:
		return isBlock(n)
	case api.CBreak, api.CLoop, api.CEndcase, api.CReturn, api.CFinish:
		return isPlain(n) && has(n)
	case api.CResult:
		return isPlain(n) && has(n, isExpression)
	case api.CGoto:
		return isNamed(n) && has(n)
	case api.CRepeat:
		return isPlain(n) && has(n, isRepeatable)
	case api.CRepWh, api.CRepUn:
		return isPlain(n) && has(n, isRepeatable, isExpression)
	}
	return false
}

func isDeclaration(n api.Node) bool {
	switch n.Op {
	case api.DManifest, api.DStatic, api.DGlobal:
		return isPlain(n) && areAll(n.L, isConstant)
	case api.DProc:
		return isProc(n)
	}
	return false
}

func isConstant(n api.Node) bool {
	return n.Op == api.DConst && isNamed(n) && has(n, isExpression)
}

func isProc(n api.Node) bool {
	last := len(n.L) - 1
	if !lex.IsName(n.S) || last < 0 || !areAll(n.L[:last], isName) {
		return false
	}
	switch n.N {
	case 0:
		return isExpression(n.L[last])
	case 1:
		return isCommand(n.L[last])
	}
	return false
}
