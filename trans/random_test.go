package trans_test

import (
	"math/rand"
	"regexp"
	"slices"
	"strconv"
	"strings"

	"bluebell/api"
)

// local is a local that is known: its name, and a number that no other local of the section has.
type local struct {
	name string
	id   int
}

// maker makes sections that pass, always the same ones. Where a local is named or declared, its number stands behind the name between two $, so that it can be renamed.
type maker struct {
	*rand.Rand
	manifests []string // ahead of all procedures
	variables []string // statics, and globals that are no procedures
	others    []string // procedures, and manifests behind them
	// In a procedure:
	locals  []local
	labels  []string // to which goto may lead
	isLoop  bool
	isEnd   bool // endcase may stand there
	isValof bool
	isGreat bool // it has its great vector
	ids     int
}

func newMaker(seed int64) *maker {
	return &maker{Rand: rand.New(rand.NewSource(seed))}
}

var marks = regexp.MustCompile(`([a-z]+)\$(\d+)\$`)

// plain is a section as it is.
func plain(marked string) string {
	return marks.ReplaceAllString(marked, "$1")
}

// renamed is a section in which each local has a name that is nowhere else.
func renamed(marked string) string {
	return marks.ReplaceAllString(marked, "v$2")
}

func (m *maker) pick(l ...string) string {
	return l[m.Intn(len(l))]
}

// chance is true once in so many times.
func (m *maker) chance(n int) bool {
	return m.Intn(n) == 0
}

func (m *maker) isHidden(name string) bool {
	return slices.ContainsFunc(m.locals, func(l local) bool { return l.name == name })
}

func (m *maker) open(names []string) []string {
	return slices.DeleteFunc(slices.Clone(names), m.isHidden)
}

// marked returns the locals that are not hidden by others.
func (m *maker) marked() []string {
	var l []string
	seen := map[string]bool{}
	for _, x := range slices.Backward(m.locals) {
		if !seen[x.name] {
			l = append(l, mark(x))
		}
		seen[x.name] = true
	}
	return l
}

func mark(l local) string {
	return l.name + "$" + strconv.Itoa(l.id) + "$"
}

// fresh makes a local, which is not known yet. There are few names, so that many are hidden.
func (m *maker) fresh(but ...local) local {
	for {
		name := m.pick("a", "b", "c", "d", "e", "f", "i", "x", "start", "wrch")
		if !slices.ContainsFunc(but, func(l local) bool { return l.name == name }) {
			m.ids++
			return local{name, m.ids}
		}
	}
}

// variable returns a name that may be a left.
func (m *maker) variable() string {
	if l := append(m.open(m.variables), m.marked()...); len(l) > 0 {
		return m.pick(l...)
	}
	return "! 1"
}

// name returns one that means something.
func (m *maker) name() string {
	l := append(m.open(m.variables), m.open(m.others)...)
	l = append(l, m.open(m.manifests)...)
	l = append(l, m.open([]string{"start", "wrch", "stop"})...)
	return m.pick(append(l, m.marked()...)...)
}

// constant writes a number as a constant expression.
func (m *maker) constant(value, levels int) string {
	number := strconv.Itoa(value)
	if value < 0 {
		number = "- " + strconv.Itoa(-value)
	}
	known := m.open(m.manifests)
	switch m.Intn(9) {
	case 0:
		return "(" + number + " + 0)"
	case 1:
		return "(~ ~ (" + number + "))"
	case 2:
		return "(true -> " + number + ", " + m.expr(levels-1) + ")"
	case 3:
		return "(1 = 2 -> " + m.expr(levels-1) + ", " + number + ")"
	case 4, 5:
		if len(known) > 0 {
			return "(" + number + " + " + m.pick(known...) + " * false)"
		}
	}
	return "(" + number + ")"
}

// selector writes one, many parts of which are 0.
func (m *maker) selector(levels int) string {
	size := m.Intn(17) * m.Intn(2)
	shift := m.Intn(17-size) * m.Intn(2)
	offset := m.Intn(256) * m.Intn(2)
	if m.chance(2) {
		return m.constant(size+32*shift+1024*offset, levels)
	}
	return "slct(" + m.constant(size, levels) + ", " + strconv.Itoa(shift) + ", " + strconv.Itoa(offset) + ")"
}

func (m *maker) exprs(levels, count int) string {
	var l []string
	for range count {
		l = append(l, m.expr(levels))
	}
	return strings.Join(l, ", ")
}

func (m *maker) simple() string {
	switch m.Intn(8) {
	case 0:
		return strconv.Itoa(m.Intn(1000))
	case 1:
		return m.pick("true", "false", "?", "2147483647", "#80000000", "'a'")
	case 2:
		return m.pick(`"abc"`, `""`, `"*n**"`)
	}
	return m.name()
}

func (m *maker) expr(levels int) string {
	if levels < 1 {
		return m.simple()
	}
	below := levels - 1
	switch m.Intn(16) {
	case 0, 1:
		operator := m.pick("*", "/", "rem", "+", "-", "<<", ">>", "&", "|", "xor", "eqv", "=", "~=", "<", "<=", ">", ">=")
		return "(" + m.expr(below) + " " + operator + " " + m.expr(below) + ")"
	case 2:
		return "(" + m.pick("- ", "~ ") + m.expr(below) + ")"
	case 3:
		return "(" + m.expr(below) + m.pick(" ! ", " % ") + m.expr(below) + ")"
	case 4:
		return "(! " + m.expr(below) + ")"
	case 5:
		return "(@ " + m.cell(below) + ")"
	case 6, 7:
		return "(" + m.expr(below) + " -> " + m.exprs(below, 2) + ")"
	case 8, 9:
		return m.call(below)
	case 10:
		return m.valof(below)
	case 11:
		return "table(" + m.constant(m.Intn(100)-50, below) + m.pick("", ", 2, - 3") + ")"
	case 12:
		return "(" + m.selector(below) + " of " + m.expr(below) + ")"
	case 13:
		return m.constant(m.Intn(100)-50, below)
	case 14:
		return "slct(" + m.pick("3, 4, 5", "0, 0, 0", "16, 0, 255") + ")"
	}
	return m.simple()
}

// cell returns what has an address.
func (m *maker) cell(levels int) string {
	switch m.Intn(4) {
	case 0:
		return "(" + m.expr(levels) + " ! " + m.expr(levels) + ")"
	case 1:
		return "(! " + m.expr(levels) + ")"
	}
	return "(" + m.variable() + ")"
}

func (m *maker) left(levels int) string {
	switch m.Intn(4) {
	case 0:
		return "(" + m.expr(levels) + " % " + m.expr(levels) + ")"
	case 1:
		return "(" + m.selector(levels) + " of " + m.expr(levels) + ")"
	}
	return m.cell(levels)
}

func (m *maker) call(levels int) string {
	return "(" + m.expr(levels*m.Intn(2)) + ")(" + m.exprs(levels, m.Intn(4)) + ")"
}

// apart makes something with what is known there alone.
func (m *maker) apart(change func(), make func() string) string {
	before := *m
	m.locals, m.labels = slices.Clone(m.locals), slices.Clone(m.labels)
	change()
	s := make()
	m.locals, m.labels, m.isLoop, m.isEnd, m.isValof = before.locals, before.labels, before.isLoop, before.isEnd, before.isValof
	return s
}

func (m *maker) valof(levels int) string {
	return m.apart(func() { m.labels, m.isLoop, m.isEnd, m.isValof = nil, false, false, true }, func() string {
		return "(valof " + m.block(levels-1, nil) + ")"
	})
}

// block makes a block with some labels, what else is to stand before its commands, and other items. Which items they are is told before the first one is made.
func (m *maker) block(levels int, cases []int) string {
	return m.apart(func() {}, func() string {
		var names []string
		for _, name := range []string{"k", "l", "n", "a", "b"} {
			if levels > 0 && m.chance(4) {
				names = append(names, name)
			}
		}
		m.labels = append(m.labels, names...)
		slots := make([]string, m.Intn(3))
		for _, name := range names {
			slots = append(slots, name+" :")
		}
		for _, value := range cases {
			slots = append(slots, strconv.Itoa(value))
		}
		m.Shuffle(len(slots), func(i, j int) { slots[i], slots[j] = slots[j], slots[i] })
		var items []string
		before := ""
		for i, slot := range slots {
			switch {
			case slot == "":
				items = append(items, m.item(levels))
				continue
			case slot == strconv.Itoa(fallback):
				slot = "default :"
			case !strings.HasSuffix(slot, ":"):
				value, _ := strconv.Atoi(slot)
				slot = "case " + m.constant(value, levels-1) + " :"
			}
			before += slot + " "
			// Sometimes the next one stands directly behind it.
			if m.chance(3) && i+1 < len(slots) && slots[i+1] != "" {
				continue
			}
			items = append(items, before+m.command(levels-1))
			before = ""
		}
		return "{ " + strings.Join(append(items, m.jump()), " ; ") + " }"
	})
}

const fallback = -1000 // stands for the default among the cases of a switch

func (m *maker) item(levels int) string {
	switch m.Intn(5) {
	case 0:
		size := []int{0, 1, m.Intn(20)}[m.Intn(3)]
		if !m.isGreat && m.chance(4) {
			m.isGreat, size = true, api.MaxVec
		}
		s := m.constant(size, levels-1)
		v := m.fresh()
		m.locals = append(m.locals, v)
		return "let " + mark(v) + " = vec " + s
	case 1, 2:
		var all []local
		var names []string
		for range 1 + m.Intn(3) {
			all = append(all, m.fresh(all...))
			names = append(names, mark(all[len(all)-1]))
		}
		s := m.exprs(levels-1, len(all))
		m.locals = append(m.locals, all...)
		return "let " + strings.Join(names, ", ") + " = " + s
	}
	return m.command(levels)
}

// jump is a command of one level.
func (m *maker) jump() string {
	l := []string{"", "", "finish"}
	if m.isLoop {
		l = append(l, "break", "break", "loop", "loop")
	}
	if m.isEnd {
		l = append(l, "endcase", "endcase")
	}
	for _, name := range m.labels {
		l = append(l, "goto "+name)
	}
	if m.isValof {
		l = append(l, "resultis "+m.simple(), "resultis "+m.simple())
	} else {
		l = append(l, "return")
	}
	return m.pick(l...)
}

func (m *maker) assignment(levels int) string {
	var lefts []string
	count := 1 + m.Intn(2)
	for range count {
		lefts = append(lefts, m.left(levels))
	}
	return strings.Join(lefts, ", ") + " := " + m.exprs(levels, count)
}

// body makes the command of a loop.
func (m *maker) body(make func() string) string {
	return m.apart(func() { m.isLoop = true }, make)
}

func (m *maker) command(levels int) string {
	if levels < 1 {
		return m.pick(m.jump(), m.assignment(0))
	}
	below := levels - 1
	inner := func() string { return m.command(below) }
	block := func() string { return m.block(below, nil) }
	switch m.Intn(14) {
	case 0:
		return m.pick("if ", "unless ") + m.expr(below) + " do " + inner()
	case 1:
		return "test " + m.expr(below) + " then " + inner() + " else " + inner()
	case 2:
		return m.pick("while ", "until ") + m.expr(below) + " do " + m.body(inner)
	case 3:
		return m.body(block) + " repeat"
	case 4:
		return m.body(block) + m.pick(" repeatwhile ", " repeatuntil ") + m.expr(below)
	case 5, 6:
		return m.counting(below)
	case 7, 8:
		return m.switching(below)
	case 9:
		return block()
	case 10:
		if m.isValof {
			return "resultis " + m.expr(below)
		}
	case 11:
		return m.jump()
	case 12:
		return m.call(below)
	}
	return m.assignment(below)
}

func (m *maker) counting(levels int) string {
	bounds := m.expr(levels) + " to " + m.expr(levels)
	switch m.Intn(3) {
	case 0:
		bounds += " by " + m.constant(1+m.Intn(5), levels)
	case 1:
		bounds += " by " + m.constant(-1-m.Intn(5), levels)
	}
	i := m.fresh()
	return "for " + mark(i) + " = " + bounds + " do " + m.apart(func() { m.isLoop, m.locals = true, append(m.locals, i) }, func() string { return m.command(levels) })
}

func (m *maker) switching(levels int) string {
	var cases []int
	for i := range m.Intn(5) {
		cases = append(cases, 10*i-m.Intn(10))
	}
	if m.chance(2) {
		cases = append(cases, fallback)
	}
	return "switchon " + m.expr(levels) + " into " + m.apart(func() { m.isEnd = true }, func() string { return m.block(levels, cases) })
}

func (m *maker) proc(name string) string {
	m.locals, m.labels, m.isLoop, m.isEnd, m.isValof, m.isGreat = nil, nil, false, false, false, false
	var params []local
	var names []string
	for range m.Intn(4) {
		params = append(params, m.fresh(params...))
		names = append(names, mark(params[len(params)-1]))
	}
	m.locals = params
	head := "let " + name + "(" + strings.Join(names, ", ") + ") "
	if m.chance(2) {
		// The end of the block is a return, which no function has.
		return head + "= " + m.apart(func() { m.isValof = true }, func() string { return m.pick(m.expr(4), m.valof(4)) })
	}
	return head + "be " + m.block(4, nil)
}

// section makes a section: manifests first, then the others as they come.
func (m *maker) section() string {
	names := []string{"a", "b", "c", "d", "e", "f", "g", "h", "p", "q"}
	m.Shuffle(len(names), func(i, j int) { names[i], names[j] = names[j], names[i] })
	m.manifests, m.variables, m.others, m.locals = nil, nil, nil, nil
	head := m.pick("", "", "section \"made\" ")
	var decls, procs []string
	for i, name := range names[:3+m.Intn(7)] {
		switch m.Intn(8) {
		case 0, 1:
			head += "manifest { " + name + " = " + m.constant(m.Intn(1000)-500, 0) + " } "
			m.manifests = append(m.manifests, name)
		case 2:
			decls = append(decls, "manifest { "+name+" = "+strconv.Itoa(i)+" } ")
			m.others = append(m.others, name)
		case 3:
			decls = append(decls, "static { "+name+" = - "+strconv.Itoa(i)+" } ")
			m.variables = append(m.variables, name)
		case 4:
			decls = append(decls, "global { "+name+" : "+strconv.Itoa(20+i)+" } ")
			m.variables = append(m.variables, name)
		case 5:
			decls = append(decls, "global { "+name+" : "+strconv.Itoa(199-i)+" } ")
			procs = append(procs, name)
		default:
			procs = append(procs, name)
		}
	}
	if m.chance(2) {
		procs = append(procs, "start")
	}
	m.others = append(m.others, procs...)
	for _, name := range procs {
		decls = append(decls, m.proc(name)+" ")
	}
	m.Shuffle(len(decls), func(i, j int) { decls[i], decls[j] = decls[j], decls[i] })
	return head + strings.Join(decls, "")
}
