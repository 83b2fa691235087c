package scope

import (
	"slices"

	"bluebell/api"
)

const leastGlobal = 12 // the first number that no given name has

// Given is described in shared/doc/04-scope.md.
func Given() []string {
	return []string{start, "rdch", "wrch", "stop", "getvec", "freevec", "muldiv", "createco", "callco", "cowait", "deleteco"}
}

// givenNumber returns the number of a given name, or 0.
func givenNumber(name string) int {
	return 1 + slices.Index(Given(), name)
}

// Find is described in P4.2.
func Find(l []Top, name string) (Top, bool) {
	for _, t := range l {
		if t.Name == name {
			return t, true
		}
	}
	if number := givenNumber(name); number > 0 {
		return Top{Name: name, Kind: Global, N: number}, true
	}
	return Top{}, false
}

// declared is a DConst or a DProc, and the kind of name that it declares.
type declared struct {
	api.Node
	kind int
}

// declarations returns all that a section declares, in order.
func declarations(s api.Section) []declared {
	var l []declared
	for _, d := range s.Decls {
		if d.Op == api.DProc {
			l = append(l, declared{d, Proc})
			continue
		}
		for _, part := range d.L {
			l = append(l, declared{part, kindOf(d.Op)})
		}
	}
	return l
}

// kindOf returns the kind of names that a DManifest or its like declares.
func kindOf(op int) int {
	switch op {
	case api.DManifest:
		return Manifest
	case api.DStatic:
		return Static
	}
	return Global
}

// checkTopNames looks for names that may not be there again.
func checkTopNames(l []declared) problem {
	kinds := map[string]int{} // None: the name has its global and its procedure, and may have no more
	for _, d := range l {
		before, again := kinds[d.S]
		isPair := before == Global && d.kind == Proc || before == Proc && d.kind == Global
		switch {
		case givenNumber(d.S) > 0 && (d.S != start || d.kind != Proc):
			return problemAt(d.Node, api.ErrTwice)
		case !again:
			kinds[d.S] = d.kind
		case isPair:
			kinds[d.S] = None
		default:
			return problemAt(d.Node, api.ErrTwice)
		}
	}
	return problem{}
}

// gathering is what is known of the top names so far.
type gathering struct {
	tops           []Top
	values         map[string]int // of the manifests
	taken          map[int]bool   // numbers of globals
	statics, procs int
}

// gather returns the top names with their values and numbers, or the first error in one of these.
func gather(l []declared) ([]Top, problem) {
	g := gathering{values: map[string]int{}, taken: map[int]bool{}}
	for _, d := range l {
		if p := g.add(d); p.err != api.OK {
			return nil, p
		}
	}
	g.joinGlobals()
	return g.tops, problem{}
}

func (g *gathering) add(d declared) problem {
	n, p := g.number(d)
	if p.err != api.OK {
		return p
	}
	g.tops = append(g.tops, Top{Name: d.S, Kind: d.kind, N: n})
	return problem{}
}

// number returns the N of a top name.
func (g *gathering) number(d declared) (int, problem) {
	if d.kind == Proc {
		g.procs++
		return g.procs, problem{}
	}
	value, p := meaning(g.valueOf).compute(d.L[0])
	if p.err != api.OK {
		return 0, p
	}
	switch d.kind {
	case Manifest:
		g.values[d.S] = value
	case Static:
		g.statics++
		return g.statics - 1, problem{}
	case Global:
		p = g.take(d, value)
	}
	return value, p
}

func (g *gathering) valueOf(name string) (int, api.Errno) {
	value, ok := g.values[name]
	if !ok {
		return 0, api.ErrConst
	}
	return value, api.OK
}

// take examines the number of a global.
func (g *gathering) take(d declared, number int) problem {
	if number < leastGlobal || number >= api.GlobalSize {
		return problemAt(d.L[0], api.ErrRange)
	}
	if g.taken[number] {
		return problemAt(d.Node, api.ErrTwice)
	}
	g.taken[number] = true
	return problem{}
}

// joinGlobals tells the procedures that are globals their numbers. It waits for all names, because a global may be declared behind its procedure.
func (g *gathering) joinGlobals() {
	numbers := map[string]int{start: givenNumber(start)}
	for _, t := range g.tops {
		if t.Kind == Global {
			numbers[t.Name] = t.N
		}
	}
	for i, t := range g.tops {
		if t.Kind == Proc {
			g.tops[i].Global = numbers[t.Name]
		}
	}
}
