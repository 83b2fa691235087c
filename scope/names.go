package scope

import (
	"bluebell/api"
	"bluebell/parse"
)

// isProcedure reports whether a node is a DProc that a section may have.
func isProcedure(n api.Node) bool {
	return n.Op == api.DProc && parse.Check(api.Section{Decls: []api.Node{n}}) == api.OK
}

// visitAll goes through a whole procedure. Of what is none it visits nothing.
func visitAll(p api.Node, visit func(n api.Node, at place)) {
	if !isProcedure(p) {
		return
	}
	visitor(func(n api.Node, at place) bool {
		visit(n, at)
		return true
	}).walk(p, place{})
}

// Locals is described in P4.4.
func Locals(p api.Node) []string {
	var l []string
	visitAll(p, func(n api.Node, _ place) {
		switch x := shapeOf(n).(type) {
		case procedure:
			l = append(l, textsOf(x.params)...)
		case let:
			l = append(l, textsOf(x.names)...)
		case vector:
			l = append(l, x.name)
		case counting:
			l = append(l, x.name)
		}
	})
	return l
}

func textsOf(names []api.Node) []string {
	var l []string
	for _, n := range names {
		l = append(l, n.S)
	}
	return l
}

// isFree reports whether a node is a name that means no parameter or local.
func isFree(n api.Node, at place) bool {
	return n.Op == api.EName && at.role != declaring && !at.locals.has(n.S)
}

// Free is described in P4.4.
func Free(p api.Node) []string {
	var l []string
	seen := map[string]bool{}
	visitAll(p, func(n api.Node, at place) {
		if isFree(n, at) && note(seen, n.S) {
			l = append(l, n.S)
		}
	})
	return l
}

// Calls is described in P4.4.
func Calls(s api.Section) ([][2]string, api.Errno) {
	tops, err := Tops(s)
	if err != api.OK {
		return nil, err
	}
	names := namesOf(tops)
	var l [][2]string
	seen := map[[2]string]bool{}
	for _, d := range s.Decls {
		visitAll(d, func(n api.Node, at place) {
			if n.Op != api.ECall || !isFree(n.L[0], at) || names[n.L[0].S].Kind != Proc {
				return
			}
			if pair := [2]string{d.S, n.L[0].S}; note(seen, pair) {
				l = append(l, pair)
			}
		})
	}
	return l, api.OK
}
