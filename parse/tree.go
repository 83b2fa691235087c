package parse

import (
	"slices"

	"bluebell/api"
)

// Size is described in P3.4.
func Size(l []api.Node) int {
	size := len(l)
	for _, n := range l {
		size += Size(n.L)
	}
	return size
}

// Levels is described in P3.4.
func Levels(n api.Node) int {
	below := 0
	for _, part := range n.L {
		below = max(below, Levels(part))
	}
	return 1 + below
}

// Same is described in P3.4.
func Same(a, b api.Section) bool {
	return a.Name == b.Name && slices.EqualFunc(a.Decls, b.Decls, SameNode)
}

// SameNode is described in P3.4.
func SameNode(a, b api.Node) bool {
	return a.Op == b.Op && a.N == b.N && a.S == b.S && slices.EqualFunc(a.L, b.L, SameNode)
}

// Proc is described in P3.4.
func Proc(s api.Section, name string) (api.Node, api.Errno) {
	for _, d := range s.Decls {
		if d.Op == api.DProc && d.S == name {
			return copied(d), api.OK
		}
	}
	return api.Node{}, api.ErrNone
}

// copied returns a tree that shares no memory with the one given.
func copied(n api.Node) api.Node {
	n.L = slices.Clone(n.L)
	for i, part := range n.L {
		n.L[i] = copied(part)
	}
	return n
}

// Names is described in P3.4.
func Names(n api.Node) []string {
	var l []string
	known := map[string]bool{}
	var walk func(n api.Node)
	walk = func(n api.Node) {
		if n.Op == api.EName && !known[n.S] {
			known[n.S] = true
			l = append(l, n.S)
		}
		for _, part := range n.L {
			walk(part)
		}
	}
	walk(n)
	return l
}
