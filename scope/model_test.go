package scope_test

import (
	"math"
	"slices"

	"bluebell/api"
	"bluebell/scope"
)

// The model: what the chapter says, told by looking upwards from each node, instead of keeping what is known on the way down.

// spot is a node in its tree.
type spot struct {
	api.Node
	up  *spot
	nth int // which part of up it is
}

// spotsOf returns the nodes below one in the order in which they are examined.
func spotsOf(n api.Node, up *spot, nth int) []*spot {
	s := &spot{n, up, nth}
	l := []*spot{s}
	order := []int{}
	for i := range n.L {
		order = append(order, i)
	}
	if n.Op == api.CLet {
		order = append(order[n.N:], order[:n.N]...)
	}
	for _, i := range order {
		l = append(l, spotsOf(n.L[i], s, i)...)
	}
	return l
}

func (s *spot) isLast() bool {
	return s.nth == len(s.up.L)-1
}

// isDeclaring reports whether a node is the name of a parameter or of a CLet.
func (s *spot) isDeclaring() bool {
	return s.up.Op == api.DProc && !s.isLast() || s.up.Op == api.CLet && s.nth < s.up.N
}

// declares returns the names that an item declares.
func declares(n api.Node) []string {
	var l []string
	switch n.Op {
	case api.CLet:
		for _, name := range n.L[:n.N] {
			l = append(l, name.S)
		}
	case api.CVec:
		l = append(l, n.S)
	}
	return l
}

// local returns the node that declares the local that a name means, or nil.
func (s *spot) local(name string) *api.Node {
	for ; s.up != nil; s = s.up {
		switch s.up.Op {
		case api.CBlock:
			for i := s.nth - 1; i >= 0; i-- {
				if slices.Contains(declares(s.up.L[i]), name) {
					return &s.up.L[i]
				}
			}
		case api.CFor:
			if s.isLast() && s.up.S == name {
				return &s.up.up.L[s.up.nth]
			}
		case api.DProc:
			for i, param := range s.up.L[:len(s.up.L)-1] {
				if s.isLast() && param.S == name {
					return &s.up.L[i]
				}
			}
		}
	}
	return nil
}

// block returns the block of which a node is an item, or nil.
func (s *spot) block() *spot {
	for s.up != nil && s.isLast() && (s.up.Op == api.CLabel || s.up.Op == api.CCase || s.up.Op == api.CDefault) {
		s = s.up
	}
	if s.up != nil && s.up.Op == api.CBlock {
		return s.up
	}
	return nil
}

// within reports whether a node is in a part with a property, in the same valof.
func (s *spot) within(is func(part *spot) bool) bool {
	for ; s.up != nil && s.Op != api.EValof; s = s.up {
		if is(s) {
			return true
		}
	}
	return false
}

func isCommandOfLoop(s *spot) bool {
	switch s.up.Op {
	case api.CWhile, api.CUntil:
		return s.nth == 1
	case api.CRepeat, api.CRepWh, api.CRepUn:
		return s.nth == 0
	case api.CFor:
		return s.isLast()
	}
	return false
}

func isSwitchBlock(s *spot) bool {
	return s.up != nil && s.up.Op == api.CSwitch && s.nth == 1
}

func (s *spot) isInValof() bool {
	for ; s.up != nil; s = s.up {
		if s.up.Op == api.EValof {
			return true
		}
	}
	return false
}

// judge is the model of Check.
type judge struct {
	tops      []scope.Top
	manifests map[string]int // ahead of the declaration
	spots     []*spot        // of the declaration
}

type told struct {
	err api.Errno
	at  int
}

var fine = told{api.OK, -1}

func isGiven(name string) bool {
	return slices.Contains(scope.Given(), name)
}

func (j *judge) kinds(name string) []int {
	var l []int
	for _, t := range j.tops {
		if t.Name == name {
			l = append(l, t.Kind)
		}
	}
	return l
}

func (j *judge) means(s *spot, name string) bool {
	return s.local(name) != nil || len(j.kinds(name)) > 0 || isGiven(name)
}

func (j *judge) isVariable(s *spot) bool {
	if s.Op != api.EName {
		return false
	}
	kinds := j.kinds(s.S)
	return s.local(s.S) != nil || slices.Equal(kinds, []int{scope.Static}) || slices.Equal(kinds, []int{scope.Global})
}

// modelCheck is what Check should tell of a section that parse.Check takes.
func modelCheck(s api.Section) told {
	kinds := map[int]int{api.DManifest: scope.Manifest, api.DStatic: scope.Static, api.DGlobal: scope.Global}
	j := &judge{manifests: map[string]int{}}
	var nodes []api.Node
	for _, d := range s.Decls {
		if d.Op == api.DProc {
			nodes, j.tops = append(nodes, d), append(j.tops, scope.Top{Name: d.S, Kind: scope.Proc})
			continue
		}
		for _, c := range d.L {
			nodes, j.tops = append(nodes, c), append(j.tops, scope.Top{Name: c.S, Kind: kinds[d.Op]})
		}
	}
	for i, n := range nodes {
		if j.isTwice(i) {
			return told{api.ErrTwice, n.At}
		}
	}
	numbers := map[int]bool{}
	for i, n := range nodes {
		if j.tops[i].Kind == scope.Proc {
			continue
		}
		value, wrong := j.value(nil, n.L[0])
		if wrong != fine {
			return wrong
		}
		if j.tops[i].Kind == scope.Manifest {
			j.manifests[n.S] = value
		}
		if j.tops[i].Kind == scope.Global {
			if value < 12 || value > api.GlobalSize-1 {
				return told{api.ErrRange, n.L[0].At}
			}
			if numbers[value] {
				return told{api.ErrTwice, n.At}
			}
			numbers[value] = true
		}
	}
	values := j.manifests
	j.manifests = map[string]int{}
	for i, n := range nodes {
		if wrong := j.walk(n); wrong != fine {
			return wrong
		}
		if j.tops[i].Kind == scope.Manifest {
			j.manifests[n.S] = values[n.S]
		}
	}
	return fine
}

// isTwice reports whether the name i may not be there.
func (j *judge) isTwice(i int) bool {
	t := j.tops[i]
	if isGiven(t.Name) && (t.Name != "start" || t.Kind != scope.Proc) {
		return true
	}
	var before []int
	for _, other := range j.tops[:i] {
		if other.Name == t.Name {
			before = append(before, other.Kind)
		}
	}
	other := map[int]int{scope.Global: scope.Proc, scope.Proc: scope.Global}[t.Kind]
	return len(before) > 1 || len(before) == 1 && before[0] != other
}

func (j *judge) walk(n api.Node) told {
	j.spots = spotsOf(n, nil, 0)
	for i, s := range j.spots {
		if s.up == nil {
			continue // a DConst, a DProc: no rule from 2 to 6 is told there
		}
		for _, rule := range []func(int, *spot) told{j.rule2, j.rule3, j.rule4, j.rule5, j.rule6} {
			if wrong := rule(i, s); wrong != fine {
				return wrong
			}
		}
	}
	return fine
}

func tell(wrong bool, err api.Errno, s *spot) told {
	if wrong {
		return told{err, s.At}
	}
	return fine
}

func (j *judge) rule2(_ int, s *spot) told {
	if s.Op == api.EName {
		return tell(!s.isDeclaring() && !j.means(s, s.S), api.ErrNone, s)
	}
	if s.Op != api.CGoto {
		return fine
	}
	for up := s.up; up != nil && up.Op != api.EValof; up = up.up {
		for _, other := range j.spots {
			if other.Op == api.CLabel && other.S == s.S && other.block() == up {
				return fine
			}
		}
	}
	return told{api.ErrNone, s.At}
}

func (j *judge) rule3(_ int, s *spot) told {
	lefts := []int{api.ESub, api.EByte, api.ELoad, api.ESel}
	addressed := []int{api.ESub, api.ELoad}
	if s.up.Op == api.CAssign && s.nth < s.up.N {
		return tell(!slices.Contains(lefts, s.Op) && !j.isVariable(s), api.ErrKind, s)
	}
	return tell(s.up.Op == api.EAddr && !slices.Contains(addressed, s.Op) && !j.isVariable(s), api.ErrKind, s)
}

func (j *judge) rule4(_ int, s *spot) told {
	least, most := math.MinInt32, math.MaxInt32
	isAsked := s.Op == api.ESlct
	switch {
	case s.up.Op == api.ETable, s.up.Op == api.CCase && s.nth == 0:
		isAsked = true
	case s.up.Op == api.CVec:
		isAsked, least, most = true, 0, api.MaxVec
	case s.up.Op == api.ESel && s.nth == 0, s.up.Op == api.CFor && s.nth == 2 && s.up.N == 1:
		isAsked = true
	}
	if !isAsked {
		return fine
	}
	value, wrong := j.value(s, s.Node)
	if wrong != fine {
		return wrong
	}
	if s.up.Op == api.ESel && s.nth == 0 {
		return tell(value < 0 || value%32+value/32%32 > 16 || value/1024 > 255, api.ErrRange, s)
	}
	return tell(value < least || value > most || s.up.Op == api.CFor && s.nth == 2 && s.up.N == 1 && value == 0, api.ErrRange, s)
}

func (j *judge) rule5(_ int, s *spot) told {
	wrong := false
	switch s.Op {
	case api.CBreak, api.CLoop:
		wrong = !s.within(isCommandOfLoop)
	case api.CEndcase:
		wrong = !s.within(isSwitchBlock)
	case api.CResult:
		wrong = !s.isInValof()
	case api.CReturn:
		wrong = s.isInValof()
	case api.CLabel:
		wrong = s.block() == nil
	case api.CCase, api.CDefault:
		wrong = s.block() == nil || !isSwitchBlock(s.block())
	}
	return tell(wrong, api.ErrPlace, s)
}

func (j *judge) rule6(i int, s *spot) told {
	if s.Op == api.EName && s.isDeclaring() {
		for _, other := range s.up.L[:s.nth] {
			if other.S == s.S {
				return told{api.ErrTwice, s.At}
			}
		}
		return fine
	}
	if s.Op != api.CLabel && s.Op != api.CCase && s.Op != api.CDefault {
		return fine
	}
	for _, other := range j.spots[:i] {
		if other.Op != s.Op || other.block() != s.block() {
			continue
		}
		switch s.Op {
		case api.CLabel:
			if other.S == s.S {
				return told{api.ErrTwice, s.At}
			}
		case api.CCase:
			a, _ := j.value(other, other.L[0])
			b, wrong := j.value(s, s.L[0])
			if wrong == fine && a == b {
				return told{api.ErrTwice, s.At}
			}
		case api.CDefault:
			return told{api.ErrTwice, s.At}
		}
	}
	return fine
}

// value computes a constant at a spot; where there is none it is the value of a declaration.
func (j *judge) value(s *spot, n api.Node) (int, told) {
	var parts []int
	switch n.Op {
	case api.EBin, api.EUn, api.ESlct:
		for _, part := range n.L {
			v, wrong := j.value(s, part)
			if wrong != fine {
				return 0, wrong
			}
			parts = append(parts, v)
		}
	}
	switch n.Op {
	case api.ENum:
		return n.N, fine
	case api.ETrue:
		return -1, fine
	case api.EFalse:
		return 0, fine
	case api.EName:
		v, ok := j.manifests[n.S]
		if s != nil && !j.means(s, n.S) {
			return 0, told{api.ErrNone, n.At}
		}
		if ok && (s == nil || s.local(n.S) == nil) {
			return v, fine
		}
	case api.EUn:
		if n.N == api.Neg {
			return int(-int32(parts[0])), fine
		}
		return int(^int32(parts[0])), fine
	case api.EBin:
		if (n.N == api.Div || n.N == api.Rem) && parts[1] == 0 {
			return 0, told{api.ErrZero, n.At}
		}
		return int(binary(n.N, int32(parts[0]), int32(parts[1]))), fine
	case api.ESlct:
		if min(parts[0], parts[1], parts[2]) < 0 || parts[0]+parts[1] > 16 || parts[2] > 255 {
			return 0, told{api.ErrRange, n.At}
		}
		return parts[0] | parts[1]<<5 | parts[2]<<10, fine
	case api.ECond:
		v, wrong := j.value(s, n.L[0])
		if wrong != fine {
			return 0, wrong
		}
		if v == 0 {
			return j.value(s, n.L[2])
		}
		return j.value(s, n.L[1])
	}
	return 0, told{api.ErrConst, n.At}
}

func binary(op int, a, b int32) int32 {
	shift := uint32(b)
	switch op {
	case api.Mul:
		return a * b
	case api.Div:
		return a / b
	case api.Rem:
		return a % b
	case api.Add:
		return a + b
	case api.Sub:
		return a - b
	case api.Shl:
		return int32(uint32(a) << shift)
	case api.Shr:
		return int32(uint32(a) >> shift)
	case api.And:
		return a & b
	case api.Or:
		return a | b
	case api.Xor:
		return a ^ b
	case api.Eqv:
		return ^(a ^ b)
	}
	holds := map[int]bool{api.Eq: a == b, api.Ne: a != b, api.Lt: a < b, api.Le: a <= b, api.Gt: a > b, api.Ge: a >= b}
	if holds[op] {
		return -1
	}
	return 0
}

// modelLocals is what Locals should tell of a procedure.
func modelLocals(n api.Node) []string {
	var l []string
	if n.Op == api.DProc {
		for _, param := range n.L[:len(n.L)-1] {
			l = append(l, param.S)
		}
	}
	l = append(l, declares(n)...)
	if n.Op == api.CFor {
		l = append(l, n.S)
	}
	for _, part := range n.L {
		l = append(l, modelLocals(part)...)
	}
	return l
}

// modelFree is what Free should tell of a procedure.
func modelFree(n api.Node) []string {
	var l []string
	for _, s := range spotsOf(n, nil, 0) {
		if s.Op == api.EName && !s.isDeclaring() && s.local(s.S) == nil && !slices.Contains(l, s.S) {
			l = append(l, s.S)
		}
	}
	return l
}

// modelCalls is what Calls should tell of a section that passes.
func modelCalls(s api.Section) [][2]string {
	var l [][2]string
	for _, d := range s.Decls {
		if d.Op != api.DProc {
			continue
		}
		for _, spot := range spotsOf(d, nil, 0) {
			if spot.Op != api.ECall || spot.L[0].Op != api.EName || spot.local(spot.L[0].S) != nil {
				continue
			}
			pair := [2]string{d.S, spot.L[0].S}
			isProc := slices.ContainsFunc(s.Decls, func(other api.Node) bool { return other.Op == api.DProc && other.S == pair[1] })
			if isProc && !slices.Contains(l, pair) {
				l = append(l, pair)
			}
		}
	}
	return l
}
