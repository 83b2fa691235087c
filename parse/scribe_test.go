package parse_test

import (
	"strings"

	"bluebell/api"
	"bluebell/lex"
)

// scribe writes sources of trees by itself: with parentheses around all parts of operators, and with blanks, comments and parentheses that need not be. It writes the places of the nodes into the tree.
type scribe struct {
	maker
	strings.Builder
	nulls []*api.Node // at which the next token is the place
}

const noToken = "$" // a tree that no source gives may get this

var signs = map[int]string{
	api.Mul: "*", api.Div: "/", api.Rem: "rem", api.Add: "+", api.Sub: "-", api.Shl: "<<", api.Shr: ">>", api.And: "&", api.Or: "|", api.Xor: "xor", api.Eqv: "eqv",
	api.Eq: "=", api.Ne: "~=", api.Lt: "<", api.Le: "<=", api.Gt: ">", api.Ge: ">=",
}

var words = map[int]string{
	api.ESub: "!", api.EByte: "%", api.ESel: "of", api.ELoad: "!", api.EAddr: "@", api.ETrue: "true", api.EFalse: "false", api.EAny: "?", api.ETable: "table", api.ESlct: "slct", api.EValof: "valof",
	api.CIf: "if", api.CUnless: "unless", api.CWhile: "while", api.CUntil: "until", api.CTest: "test", api.CRepeat: "repeat", api.CRepWh: "repeatwhile", api.CRepUn: "repeatuntil",
	api.CFor: "for", api.CSwitch: "switchon", api.CCase: "case", api.CDefault: "default", api.CBreak: "break", api.CLoop: "loop", api.CEndcase: "endcase", api.CReturn: "return", api.CFinish: "finish",
	api.CResult: "resultis", api.CGoto: "goto", api.DManifest: "manifest", api.DStatic: "static", api.DGlobal: "global",
}

// written returns a source of a tree, and the tree with its places.
func written(seed int64, n api.Node) (string, api.Node) {
	w := &scribe{maker: newMaker(seed)}
	n = copied(n)
	w.tree(&n)
	w.end()
	return w.String(), n
}

func writtenSection(seed int64, s api.Section) (string, api.Section) {
	w := &scribe{maker: newMaker(seed)}
	if s.Name != "" || w.Intn(4) == 0 {
		w.put("section")
		w.quoted(s.Name)
	}
	decls := copied(api.Node{L: s.Decls}).L
	for i := range decls {
		key := "let"
		if i > 0 && decls[i-1].Op == api.DProc && w.Intn(2) == 0 {
			key = "and"
		}
		w.decl(&decls[i], key)
	}
	w.end()
	return w.String(), api.Section{Name: s.Name, Decls: decls}
}

// put writes a token and returns its place.
func (w *scribe) put(token string) int {
	w.space()
	at := w.Len()
	w.here(at)
	w.WriteString(token)
	return at
}

func (w *scribe) space() {
	l := []string{" ", " ", " ", "\n", "\t", "  ", " // ( ) \" $\n", "\n\n\t"}
	w.WriteString(l[w.Intn(len(l))])
}

func (w *scribe) here(at int) {
	for _, n := range w.nulls {
		n.At = at
	}
	w.nulls = nil
}

func (w *scribe) end() {
	w.space()
	w.here(w.Len())
}

func (w *scribe) quoted(s string) int {
	q, err := lex.Quote(s)
	if err != api.OK {
		q = noToken
	}
	return w.put(q)
}

func (w *scribe) has(n *api.Node, parts int) bool {
	if len(n.L) != parts {
		w.put(noToken)
		return false
	}
	return true
}

// inside writes an expression in parentheses, free one with parentheses or without.
func (w *scribe) inside(n *api.Node) {
	w.put("(")
	w.free(n)
	w.put(")")
}

func (w *scribe) free(n *api.Node) {
	if w.Intn(8) == 0 {
		w.inside(n)
	} else {
		w.tree(n)
	}
}

// list writes expressions with commas between them.
func (w *scribe) list(l []api.Node) {
	for i := range l {
		if i > 0 {
			w.put(",")
		}
		w.free(&l[i])
	}
}

func (w *scribe) names(l []api.Node) {
	for i := range l {
		if i > 0 {
			w.put(",")
		}
		w.tree(&l[i])
	}
}

func (w *scribe) tree(n *api.Node) {
	switch {
	case n.Op < api.CAssign:
		w.expr(n)
	case n.Op < api.DManifest:
		w.command(n)
	default:
		w.decl(n, "let")
	}
}

func (w *scribe) expr(n *api.Node) {
	switch n.Op {
	case api.ENum:
		s, err := lex.Number(n.N)
		if err != api.OK {
			s = noToken
		}
		n.At = w.put(s)
	case api.EStr:
		n.At = w.quoted(n.S)
	case api.EName:
		n.At = w.put(n.S)
	case api.ETrue, api.EFalse, api.EAny:
		n.At = w.put(words[n.Op])
	case api.EBin:
		w.two(n, signs[n.N])
	case api.ESub, api.EByte, api.ESel:
		w.two(n, words[n.Op])
	case api.EUn:
		w.one(n, map[int]string{api.Neg: "-", api.Not: "~"}[n.N])
	case api.ELoad, api.EAddr:
		w.one(n, words[n.Op])
	case api.ECond:
		if w.has(n, 3) {
			w.inside(&n.L[0])
			w.put("->")
			w.list(n.L[1:])
			n.At = n.L[0].At
		}
	case api.ECall:
		if len(n.L) == 0 {
			w.put(noToken)
			return
		}
		w.inside(&n.L[0])
		w.put("(")
		w.list(n.L[1:])
		w.put(")")
		n.At = n.L[0].At
	case api.ETable, api.ESlct:
		n.At = w.put(words[n.Op])
		w.put("(")
		w.list(n.L)
		w.put(")")
	case api.EValof:
		n.At = w.put(words[n.Op])
		if w.has(n, 1) {
			w.tree(&n.L[0])
		}
	default:
		w.put(noToken)
	}
}

func (w *scribe) two(n *api.Node, sign string) {
	if w.has(n, 2) {
		w.inside(&n.L[0])
		w.put(sign)
		w.inside(&n.L[1])
		n.At = n.L[0].At
	}
}

func (w *scribe) one(n *api.Node, sign string) {
	n.At = w.put(sign)
	if w.has(n, 1) {
		w.inside(&n.L[0])
	}
}

func (w *scribe) command(n *api.Node) {
	switch n.Op {
	case api.CIf, api.CUnless, api.CWhile, api.CUntil:
		w.keyed(n, "do")
	case api.CCase:
		w.keyed(n, ":")
	case api.CSwitch:
		w.keyed(n, "into")
	case api.CTest:
		w.test(n)
	case api.CFor:
		w.loop(n)
	case api.CDefault:
		n.At = w.put("default")
		w.put(":")
		w.behind(n)
	case api.CLabel:
		n.At = w.put(n.S)
		w.put(":")
		w.behind(n)
	case api.CNull:
		w.nulls = append(w.nulls, n)
	case api.CBreak, api.CLoop, api.CEndcase, api.CReturn, api.CFinish:
		n.At = w.put(words[n.Op])
	case api.CGoto:
		n.At = w.put(words[n.Op])
		w.put(n.S)
	case api.CResult:
		n.At = w.put(words[n.Op])
		w.behind(n)
	case api.CLet, api.CVec:
		w.item(n)
	default:
		w.basic(n)
	}
}

func (w *scribe) behind(n *api.Node) {
	if w.has(n, 1) {
		w.tree(&n.L[0])
	}
}

func (w *scribe) keyed(n *api.Node, second string) {
	n.At = w.put(words[n.Op])
	if w.has(n, 2) {
		w.free(&n.L[0])
		w.put(second)
		w.tree(&n.L[1])
	}
}

func (w *scribe) test(n *api.Node) {
	n.At = w.put("test")
	if w.has(n, 3) {
		w.free(&n.L[0])
		w.put("then")
		w.tree(&n.L[1])
		w.put("else")
		w.tree(&n.L[2])
	}
}

func (w *scribe) loop(n *api.Node) {
	n.At = w.put("for")
	w.put(n.S)
	w.put("=")
	by := 0
	if n.N == 1 {
		by = 1
	}
	if !w.has(n, 3+by) {
		return
	}
	w.free(&n.L[0])
	w.put("to")
	w.free(&n.L[1])
	if by == 1 {
		w.put("by")
		w.free(&n.L[2])
	}
	w.put("do")
	w.tree(&n.L[2+by])
}

func (w *scribe) item(n *api.Node) {
	n.At = w.put("let")
	if n.Op == api.CVec {
		w.put(n.S)
		w.put("=")
		w.put("vec")
		w.behind(n)
	} else if n.N < 0 || n.N > len(n.L) {
		w.put(noToken)
	} else {
		w.names(n.L[:n.N])
		w.put("=")
		w.list(n.L[n.N:])
	}
}

func (w *scribe) basic(n *api.Node) {
	switch n.Op {
	case api.CAssign:
		if n.N < 1 || n.N > len(n.L) {
			w.put(noToken)
			return
		}
		w.list(n.L[:n.N])
		w.put(":=")
		w.list(n.L[n.N:])
		n.At = n.L[0].At
	case api.CCall:
		if w.has(n, 1) {
			w.free(&n.L[0])
			n.At = n.L[0].At
		}
	case api.CBlock:
		w.block(n)
	case api.CRepeat:
		if w.has(n, 1) {
			w.tree(&n.L[0])
			w.put(words[n.Op])
			n.At = n.L[0].At
		}
	case api.CRepWh, api.CRepUn:
		if w.has(n, 2) {
			w.tree(&n.L[0])
			w.put(words[n.Op])
			w.free(&n.L[1])
			n.At = n.L[0].At
		}
	default:
		w.put(noToken)
	}
}

func (w *scribe) block(n *api.Node) {
	n.At = w.put("{")
	for i := range n.L {
		if i > 0 {
			w.put(";")
		}
		w.tree(&n.L[i])
	}
	w.put("}")
}

func (w *scribe) decl(n *api.Node, key string) {
	switch n.Op {
	case api.DManifest, api.DStatic, api.DGlobal:
		n.At = w.put(words[n.Op])
		w.put("{")
		for i := range n.L {
			if i > 0 {
				w.put(";")
			}
			w.constant(&n.L[i], map[bool]string{false: "=", true: ":"}[n.Op == api.DGlobal])
		}
		w.put("}")
	case api.DProc:
		w.proc(n, key)
	default:
		w.put(noToken)
	}
}

func (w *scribe) constant(n *api.Node, sign string) {
	if n.Op != api.DConst || !w.has(n, 1) {
		w.put(noToken)
		return
	}
	n.At = w.put(n.S)
	w.put(sign)
	w.free(&n.L[0])
}

func (w *scribe) proc(n *api.Node, key string) {
	n.At = w.put(key)
	last := len(n.L) - 1
	if last < 0 {
		w.put(noToken)
		return
	}
	w.put(n.S)
	w.put("(")
	w.names(n.L[:last])
	w.put(")")
	if n.N == 0 {
		w.put("=")
		w.free(&n.L[last])
	} else {
		w.put("be")
		w.tree(&n.L[last])
	}
}
