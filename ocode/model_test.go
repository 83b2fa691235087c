package ocode_test

import (
	"maps"
	"math/big"
	"regexp"
	"slices"
	"strings"

	"bluebell/api"
)

// The tests hold Check, Depths, Room, Jumps and Read against models that follow the text of the chapter rule by rule. They ask at each place anew, and are slow.

var (
	modelNames   = strings.Fields(modelOps)
	modelEffect  = modelEffects()
	modelString  = regexp.MustCompile(`^[ -~\n\t]{0,100}$`)
	modelLines   = regexp.MustCompile(`^c(a*|a*e+|a*e*o+|a*e*o*E)$`)
	modelPattern = modelPatterns()
)

// modelNumbers has for each instruction what its N and M are: a number (n), local or depth (d), global (g), static (s), procedure (p), label (l), operator of two or of one (b, u), number of parameters or cases (a, c), or 0.
var modelNumbers = map[string]string{
	"num": "n0", "local": "d0", "putl": "d0", "addrl": "d0", "global": "g0", "putg": "g0", "addrg": "g0", "static": "s0", "puts": "s0", "addrs": "s0",
	"proc": "p0", "load": "00", "store": "00", "getb": "00", "putb": "00", "bin": "b0", "un": "u0", "stack": "d0", "label": "l0", "jump": "l0",
	"true": "l0", "false": "l0", "call": "d0", "enter": "pa", "return": "00", "back": "00", "result": "l0", "take": "d0", "switch": "lc", "case": "nl",
}

// modelEffects has what each instruction needs above the link, and by how much it changes the depth, but for those that set it.
func modelEffects() map[string][2]int {
	m := map[string][2]int{"store": {2, -2}, "putb": {3, -3}, "bin": {2, -1}, "getb": {2, -1}, "load": {1, 0}, "un": {1, 0}, "label": {}, "jump": {}, "back": {}, "case": {}}
	for name := range strings.FieldsSeq("num local addrl global addrg static addrs proc") {
		m[name] = [2]int{0, 1}
	}
	for name := range strings.FieldsSeq("putl putg puts true false switch return result") {
		m[name] = [2]int{1, -1}
	}
	return m
}

// modelName returns the name of the instruction at a place; "" beyond the code, and for an op that is none.
func modelName(c api.Code, i int) string {
	if i < 0 || i >= len(c.Ops) || c.Ops[i].Op < 1 || c.Ops[i].Op > len(modelNames) {
		return ""
	}
	return modelNames[c.Ops[i].Op-1]
}

func modelIs(c api.Code, i int, names ...string) bool {
	return slices.Contains(names, modelName(c, i))
}

// modelPlaces returns the places of instructions.
func modelPlaces(c api.Code, names ...string) []int {
	var l []int
	for i := range c.Ops {
		if modelIs(c, i, names...) {
			l = append(l, i)
		}
	}
	return l
}

// modelProc returns in which procedure a place is, counted.
func modelProc(c api.Code, at int) int {
	n := 0
	for _, i := range modelPlaces(c, "enter") {
		if i <= at {
			n++
		}
	}
	return n
}

// modelNamed returns the labels that are named, by the places that do.
func modelNamed(c api.Code) map[int]int {
	m := map[int]int{}
	for _, i := range modelPlaces(c, "jump", "true", "false", "result", "switch") {
		m[i] = c.Ops[i].N
	}
	for _, i := range modelPlaces(c, "case") {
		m[i] = c.Ops[i].M
	}
	return m
}

// modelLabel returns the places of a label.
func modelLabel(c api.Code, label int) []int {
	return slices.DeleteFunc(modelPlaces(c, "label"), func(i int) bool { return c.Ops[i].N != label })
}

// modelBehind returns the first place from one on that is no label.
func modelBehind(c api.Code, i int) int {
	for modelIs(c, i, "label") {
		i++
	}
	return i
}

// modelGoesOn reports whether code goes on from before a place to it, also over labels.
func modelGoesOn(c api.Code, i int) bool {
	i--
	for modelIs(c, i, "label") {
		i--
	}
	return i >= 0 && !modelIs(c, i, "jump", "return", "back", "result", "switch", "case")
}

func modelGreatest(c api.Code, name string) int {
	n := 0
	for _, i := range modelPlaces(c, name) {
		n = max(n, c.Ops[i].N)
	}
	return n
}

func modelQuotable(s string) bool {
	return modelString.MatchString(s)
}

func modelCheck(c api.Code) api.Errno {
	if modelLimit(c) {
		return api.ErrLimit
	}
	if modelNumber(c) || modelCase(c) || modelProcedure(c) || modelLabels(c) || modelArea(c) || modelEntry(c) || !modelQuotable(c.Name) {
		return api.ErrCode
	}
	if _, ok := modelDepths(c); !ok || modelTake(c) {
		return api.ErrStack
	}
	return api.OK
}

// The functions below report whether a rule is broken.

func modelLimit(c api.Code) bool {
	n := 0
	for _, d := range c.Data {
		n += len(d.Words)
		if d.IsText {
			n += (len(d.Text)+2)/2 - len(d.Words)
		}
	}
	return len(c.Ops) > api.MaxOps || len(c.Data) > 2000 || n > api.StaticSize ||
		c.Procs > api.MaxProcs || len(modelPlaces(c, "enter")) > api.MaxProcs || c.Labels > 20000 || len(modelPlaces(c, "label")) > 20000
}

func modelNumber(c api.Code) bool {
	for i, o := range c.Ops {
		kind, ok := modelNumbers[modelName(c, i)]
		if !ok || modelNoKind(c, kind[0], o.N) || modelNoKind(c, kind[1], o.M) {
			return true
		}
	}
	return false
}

func modelNoKind(c api.Code, kind byte, n int) bool {
	limits := map[byte][2]int{'n': {-1 << 31, 1<<31 - 1}, 'd': {0, 4000}, 'g': {0, api.GlobalSize - 1}, 's': {0, len(c.Data) - 1}, 'p': {1, c.Procs}, 'l': {1, c.Labels}, 'b': {1, 17}, 'u': {18, 19}, 'a': {0, 8}, 'c': {0, 1000}, '0': {}}
	return n < limits[kind][0] || n > limits[kind][1]
}

func modelCase(c api.Code) bool {
	for _, i := range modelPlaces(c, "switch") {
		for k := range c.Ops[i].M {
			if !modelIs(c, i+1+k, "case") {
				return true
			}
		}
	}
	for _, i := range modelPlaces(c, "case") {
		first := i
		for modelIs(c, first, "case") {
			first--
		}
		if !modelIs(c, first, "switch") || i-first > c.Ops[first].M {
			return true
		}
	}
	return false
}

func modelProcedure(c api.Code) bool {
	enters := modelPlaces(c, "enter")
	for n, i := range enters {
		if c.Ops[i].N != n+1 || modelGoesOn(c, i) {
			return true
		}
	}
	return c.Procs != len(enters) || c.Procs != modelGreatest(c, "enter") || modelGoesOn(c, len(c.Ops)) || len(c.Ops) > 0 && !modelIs(c, 0, "enter")
}

func modelLabels(c api.Code) bool {
	for _, i := range modelPlaces(c, "label") {
		if len(modelLabel(c, c.Ops[i].N)) != 1 || !modelIs(c, modelBehind(c, i), "stack", "take") {
			return true
		}
	}
	for i, label := range modelNamed(c) {
		at := modelLabel(c, label)
		if len(at) != 1 || modelProc(c, at[0]) != modelProc(c, i) {
			return true
		}
	}
	return c.Labels != modelGreatest(c, "label")
}

func modelArea(c api.Code) bool {
	for _, d := range c.Data {
		if !modelQuotable(d.Text) || d.IsText != (len(d.Words) == 0) || !d.IsText && d.Text != "" {
			return true
		}
		for _, n := range d.Words {
			if modelNoKind(c, 'n', n) {
				return true
			}
		}
	}
	return false
}

func modelEntry(c api.Code) bool {
	seen := map[int]bool{}
	for _, e := range c.Globals {
		if seen[e.Global] || e.Global == 0 || modelNoKind(c, 'g', e.Global) || modelNoKind(c, 'p', e.Proc) {
			return true
		}
		seen[e.Global] = true
	}
	return false
}

// modelDepths takes code in which nothing else is wrong.
func modelDepths(c api.Code) ([]int, bool) {
	l := []int{}
	d := 0
	for i, o := range c.Ops {
		if modelIs(c, i, "enter") {
			d = 0
		}
		l = append(l, d)
		effect := modelEffect[modelName(c, i)]
		ok := d-2 >= effect[0] || effect[0] == 0
		next := d + effect[1]
		switch modelName(c, i) {
		case "enter":
			next = 2 + o.M
		case "stack":
			next = o.N
			ok = modelIs(c, i-1, "label") || o.N-d <= api.MaxVec+2
		case "take":
			next = o.N + 1
		case "call":
			next = o.N + 1
			ok = o.N >= 2 && o.N <= d-3
		case "local", "putl":
			ok = o.N >= 2 && o.N <= d-1
		case "addrl":
			ok = o.N >= 2
		}
		if !ok || next < 2 || next > 4000 {
			return nil, false
		}
		d = next
	}
	return l, true
}

func modelTake(c api.Code) bool {
	for _, i := range modelPlaces(c, "take") {
		if modelGoesOn(c, i) {
			return true
		}
	}
	for i, label := range modelNamed(c) {
		take := modelIs(c, modelBehind(c, modelLabel(c, label)[0]), "take")
		if take != modelIs(c, i, "result") {
			return true
		}
	}
	return false
}

// modelRoom takes code without errors, and its depths.
func modelRoom(c api.Code, depths []int) []int {
	room := make([]int, c.Procs)
	for i, o := range c.Ops {
		p := modelProc(c, i) - 1
		room[p] = max(room[p], depths[i])
		if modelIs(c, i, "stack") {
			room[p] = max(room[p], o.N)
		}
		if modelIs(c, i, "take", "call") {
			room[p] = max(room[p], o.N+1)
		}
		if modelIs(c, i, "enter") {
			room[p] = max(room[p], o.M+2)
		}
		// What pushes is never the last one of a procedure: the depth behind it is that before the next one.
	}
	return room
}

func modelJumps(c api.Code) []int {
	l := make([]int, c.Labels)
	for label := range maps.Values(modelNamed(c)) {
		l[label-1]++
	}
	return l
}

const modelQuote = `"([ !#-)+-~]|\*[nt*"]){0,100}"`

// modelPatterns has the lines of a text: c, a, e, o or E (code, area, entry, instruction, end).
func modelPatterns() map[string]*regexp.Regexp {
	const n = ` (?:0|-?[1-9][0-9]*)`
	m := map[string]*regexp.Regexp{}
	for kind, text := range map[string]string{
		"c": `code ` + modelQuote, "a": `text ` + modelQuote + `|words(` + n + `)+`, "e": `entry` + n + n, "E": `end`,
		"o": `(num|local|putl|addrl|global|putg|addrg|static|puts|addrs|proc|load|store|getb|putb|stack|label|jump|true|false|call|return|back|result|take)` + n +
			`|(enter|switch|case)` + n + n + `|bin (mul|div|rem|add|sub|shl|shr|and|or|xor|eqv|eq|ne|lt|le|gt|ge)|un (neg|not)`,
	} {
		m[kind] = regexp.MustCompile(`^(?:` + text + `)$`)
	}
	return m
}

// modelLine returns which line of a text it is, or x for none.
func modelLine(line string) string {
	for kind, pattern := range modelPattern {
		if pattern.MatchString(line) {
			if kind != "c" && !strings.HasPrefix(line, "text") && !modelInts(line) {
				return "x"
			}
			return kind
		}
	}
	return "x"
}

// modelInts reports whether the numbers of a line are such that Go writes them.
func modelInts(line string) bool {
	for word := range strings.FieldsSeq(line) {
		if n, ok := new(big.Int).SetString(word, 10); ok && !n.IsInt64() {
			return false
		}
	}
	return true
}

// modelRead returns the code if all lines are as said; otherwise the first one that is not.
func modelRead(s string) (api.Code, int) {
	l := strings.SplitAfter(s, "\n")
	kinds := ""
	for i, line := range l {
		kind := "x"
		if cut, ok := strings.CutSuffix(line, "\n"); ok {
			kind = modelLine(cut)
		} else if i > 0 && line == "" && strings.HasSuffix(kinds, "E") {
			break
		}
		kinds += kind
		if !modelLines.MatchString(kinds) {
			return api.Code{}, i + 1
		}
	}
	return modelCode(l[:len(l)-1]), 0
}

// modelCode takes lines that are as said.
func modelCode(l []string) api.Code {
	var c api.Code
	for _, line := range l {
		line = strings.TrimSuffix(line, "\n")
		word, rest, _ := strings.Cut(line, " ")
		var n []int
		for part := range strings.FieldsSeq(rest) {
			n = append(n, operand(part))
		}
		switch word {
		case "code":
			c.Name = modelUnquoted(rest)
		case "text":
			c.Data = append(c.Data, text(modelUnquoted(rest)))
		case "words":
			c.Data = append(c.Data, api.Data{Words: n})
		case "entry":
			c.Globals = append(c.Globals, api.Entry{Global: n[0], Proc: n[1]})
		case "end":
		default:
			c.Ops = append(c.Ops, ops(line)[0])
		}
	}
	c.Procs, c.Labels = modelGreatest(c, "enter"), modelGreatest(c, "label")
	return c
}

func modelUnquoted(s string) string {
	return strings.NewReplacer("**", "*", "*n", "\n", "*t", "\t", `*"`, `"`).Replace(s[1 : len(s)-1])
}
