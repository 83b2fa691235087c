package parse

import (
	"bluebell/api"
	"bluebell/lex"
)

// Print is described in P3.3.
func Print(s api.Section) (string, api.Errno) {
	if err := Check(s); err != api.OK {
		return "", err
	}
	w := &writer{}
	if s.Name != "" {
		w.put("section")
		w.quoted(s.Name)
	}
	for i, d := range s.Decls {
		if i > 0 {
			w.line()
		}
		w.declaration(d)
	}
	w.line()
	return w.whole()
}

// PrintExpr is described in P3.3.
func PrintExpr(n api.Node) (string, api.Errno) {
	if err := CheckExpr(n); err != api.OK {
		return "", err
	}
	w := &writer{}
	w.expression(n, levelWhole)
	return w.whole()
}

// PrintCommand is described in P3.3.
func PrintCommand(n api.Node) (string, api.Errno) {
	if err := checkNode(n, isCommand); err != api.OK {
		return "", err
	}
	w := &writer{}
	w.item(n)
	return w.whole()
}

// writer writes the tokens of valid trees.
type writer struct {
	text []byte
}

// put writes tokens, with a blank before each one that does not begin a line.
func (w *writer) put(tokens ...string) {
	for _, token := range tokens {
		if len(w.text) > 0 && w.text[len(w.text)-1] != '\n' {
			w.text = append(w.text, ' ')
		}
		w.text = append(w.text, token...)
	}
}

func (w *writer) line() {
	w.text = append(w.text, '\n')
}

func (w *writer) whole() (string, api.Errno) {
	if len(w.text) > api.MaxSource {
		return "", api.ErrLimit
	}
	return string(w.text), api.OK
}

func (w *writer) number(n int) {
	token, _ := lex.Number(n)
	w.put(token)
}

func (w *writer) quoted(s string) {
	token, _ := lex.Quote(s)
	w.put(token)
}

// list writes nodes with a token between them.
func (w *writer) list(l []api.Node, between string, write func(n api.Node)) {
	for i, n := range l {
		if i > 0 {
			w.put(between)
		}
		write(n)
	}
}

func (w *writer) declaration(n api.Node) {
	switch n.Op {
	case api.DManifest:
		w.constants("manifest", "=", n.L)
	case api.DStatic:
		w.constants("static", "=", n.L)
	case api.DGlobal:
		w.constants("global", ":", n.L)
	case api.DProc:
		w.procedure(n)
	}
}

func (w *writer) constants(key, sign string, l []api.Node) {
	w.put(key, "{")
	w.list(l, ";", func(n api.Node) {
		w.put(n.S, sign)
		w.part(n.L[0])
	})
	w.put("}")
}

func (w *writer) procedure(n api.Node) {
	last := len(n.L) - 1
	w.put("let", n.S, "(")
	w.list(n.L[:last], ",", w.part)
	w.put(")")
	if n.N == 0 {
		w.put("=")
		w.part(n.L[last])
	} else {
		w.put("be")
		w.item(n.L[last])
	}
}
