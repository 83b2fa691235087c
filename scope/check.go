package scope

import (
	"slices"

	"bluebell/api"
)

// examiner examines what stands in declarations.
type examiner struct {
	names  map[string]Top // of the section; of a global that is a procedure the procedure
	values map[string]int // of the manifests ahead of the declaration
	first  problem
}

// checkUses examines the declarations of a section whose top names are right.
func checkUses(l []declared, tops []Top) problem {
	x := examiner{names: namesOf(tops), values: map[string]int{}}
	for i, d := range l {
		if !visitor(x.visit).walk(d.Node, place{}) {
			return x.first
		}
		if d.kind == Manifest {
			x.values[d.S] = tops[i].N
		}
	}
	return problem{}
}

// namesOf returns top names by their names.
func namesOf(tops []Top) map[string]Top {
	names := map[string]Top{}
	for _, t := range tops {
		if names[t.Name].Kind != Proc {
			names[t.Name] = t
		}
	}
	return names
}

// visit looks for the first problem that is told at a node. The rules stand in the order of the chapter, from 2 to 6.
func (x *examiner) visit(n api.Node, p place) bool {
	rules := [...]func(api.Node, place) problem{x.checkName, x.checkKind, x.checkConstant, checkPlace, x.checkTwice}
	for _, rule := range rules {
		x.first = rule(n, p)
		if x.first.err != api.OK {
			return false
		}
	}
	return true
}

// means reports whether a name means something at a place.
func (x *examiner) means(name string, p place) bool {
	_, ok := x.names[name]
	return ok || p.locals.has(name) || givenNumber(name) > 0
}

// checkName looks for names and labels that are not there.
func (x *examiner) checkName(n api.Node, p place) problem {
	isThere := true
	switch {
	case n.Op == api.EName && p.role != declaring:
		isThere = x.means(n.S, p)
	case n.Op == api.CGoto:
		isThere = p.labels.has(n.S)
	}
	return unless(isThere, n, api.ErrNone)
}

// checkKind looks for what can be no left, or has no address.
func (x *examiner) checkKind(n api.Node, p place) problem {
	fits := true
	switch p.role {
	case left:
		fits = n.Op == api.ESub || n.Op == api.ELoad || n.Op == api.EByte || n.Op == api.ESel || x.isVariable(n, p)
	case addressed:
		fits = n.Op == api.ESub || n.Op == api.ELoad || x.isVariable(n, p)
	}
	return unless(fits, n, api.ErrKind)
}

// isVariable reports whether a node is the name of a cell. Given names are none of the section's names.
func (x *examiner) isVariable(n api.Node, p place) bool {
	kind := x.names[n.S].Kind
	return n.Op == api.EName && (p.locals.has(n.S) || kind == Static || kind == Global)
}

// checkConstant examines what has to be constant: by its place, or because it is a selector.
func (x *examiner) checkConstant(n api.Node, p place) problem {
	if !p.role.asksConstant() && n.Op != api.ESlct {
		return problem{}
	}
	value, wrong := x.meaningAt(p).compute(n)
	if wrong.err != api.OK {
		return wrong
	}
	return unless(p.role.takes(value), n, api.ErrRange)
}

// meaningAt returns what names mean in a constant expression at a place.
func (x *examiner) meaningAt(p place) meaning {
	return func(name string) (int, api.Errno) {
		if !x.means(name, p) {
			return 0, api.ErrNone
		}
		value, isAhead := x.values[name]
		if !isAhead || p.locals.has(name) {
			return 0, api.ErrConst
		}
		return value, api.OK
	}
}

// checkPlace looks for commands that stand where they may not.
func checkPlace(n api.Node, p place) problem {
	fits := true
	switch n.Op {
	case api.CBreak, api.CLoop:
		fits = p.inLoop
	case api.CEndcase:
		fits = p.inSwitch
	case api.CResult:
		fits = p.inValof
	case api.CReturn:
		fits = !p.inValof
	case api.CLabel:
		fits = p.items != nil
	case api.CCase, api.CDefault:
		fits = p.items != nil && p.items.ofSwitch
	}
	return unless(fits, n, api.ErrPlace)
}

// checkTwice looks for what is there before in its list, block or switch, and notes what is there now.
func (x *examiner) checkTwice(n api.Node, p place) problem {
	isNew := true
	switch n.Op {
	case api.EName:
		isNew = !slices.ContainsFunc(p.before, func(other api.Node) bool { return other.S == n.S })
	case api.CLabel:
		isNew = note(p.items.labels, n.S)
	case api.CCase:
		// A constant that is wrong is told when the walk comes to it.
		if value, wrong := x.meaningAt(p).compute(n.L[0]); wrong.err == api.OK {
			isNew = note(p.items.cases, value)
		}
	case api.CDefault:
		isNew = !p.items.hasDefault
		p.items.hasDefault = true
	}
	return unless(isNew, n, api.ErrTwice)
}

// note notes what was seen, and reports whether it is new.
func note[K comparable](seen map[K]bool, key K) bool {
	isNew := !seen[key]
	seen[key] = true
	return isNew
}
