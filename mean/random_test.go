package mean_test

import (
	"fmt"
	"math/rand"
	"slices"
	"strings"
)

// sort is what a variable of a random program is meant to have.
type sort int

const (
	plain  sort = iota // a number
	vector             // the address of at least four cells with numbers
	bytes              // the address of an object with at least four bytes, which were written
	text               // a string of at least three bytes
	single             // the address of one cell with a number
	proc               // a procedure with one number, which gives a number
	sorts
)

type variable struct {
	name  string
	sort  sort
	fixed bool // it counts a loop, and is not assigned to
}

// maker makes programs that mostly end well, always the same ones. Once in a while it slips, and does not care what a variable has, or how great a number is.
type maker struct {
	*rand.Rand
	rate     int // one of so many choices is a slip; 0: none
	vars     []variable
	procs    []string // with one number, that may be called
	routines []string
	labels   int
	counters int
	isLoop   bool
	isSwitch bool
	isValof  bool
	isStart  bool
}

func newMaker(seed int64, rate int) *maker {
	return &maker{Rand: rand.New(rand.NewSource(seed)), rate: rate}
}

func (m *maker) slips() bool {
	return m.rate > 0 && m.Intn(m.rate) == 0
}

func (m *maker) pick(l ...string) string {
	return l[m.Intn(len(l))]
}

// visible returns the variables of a sort whose names mean them.
func (m *maker) visible(s sort, assigned bool) []string {
	var l []string
	seen := map[string]bool{}
	for _, v := range slices.Backward(m.vars) {
		if (v.sort == s || m.slips()) && !seen[v.name] && !(assigned && v.fixed) {
			l = append(l, v.name)
		}
		seen[v.name] = true
	}
	return l
}

// value returns an expression for a value of a sort.
func (m *maker) value(s sort, depth int) string {
	if m.slips() {
		s = sort(m.Intn(int(sorts)))
		if m.Intn(6) == 0 {
			return m.pick("?", "start", "wrch", "cowait", "@ s0 + 1")
		}
	}
	if l := m.visible(s, false); len(l) > 0 && m.Intn(3) > 0 && s != plain {
		return m.pick(l...)
	}
	switch s {
	case vector:
		if l := m.visible(vector, false); len(l) > 0 {
			return m.pick("("+m.pick(l...)+" + 0)", "@("+m.pick(l...)+" ! 0)", m.pick(l...))
		}
		return m.pick("table(1, 2, 3, 4)", "table(9, - 1, 32767, 0, 5)", "s1")
	case bytes:
		return m.pick("b1", "b1", "(b1 + 1 - 1)")
	case text:
		return m.pick("\"abc\"", "\"hello, world\"", "\"*n*t*\"x\"")
	case single:
		if l := append(m.visible(plain, true), "s0"); len(l) > 0 {
			return "@ " + m.pick(l...)
		}
	case proc:
		if m.slips() {
			return m.pick("p2", "p2", "wrch", "g1", "getvec") // p2 may be the one that stands there
		}
		if len(m.procs) > 0 && m.Intn(4) > 0 {
			return m.pick(m.procs...)
		}
		return "same"
	}
	return m.number(depth)
}

func (m *maker) literal() string {
	if m.slips() {
		return m.pick("32767", "32768", "65536", "#ffff8000", "#7fffffff", "40000", "#ffffff")
	}
	return m.pick("0", "1", "2", "3", "5", "10", "100", "'a'", "true", "false", "m0", "m1", "(- 7)", "slct(3, 2, 1)", "#1f")
}

// index returns an expression from 0 to 3.
func (m *maker) index(depth int) string {
	if m.slips() {
		return m.pick("4", "(- 1)", "5", "6", m.number(depth-1))
	}
	if depth > 1 && m.Intn(3) == 0 {
		return "(" + m.number(depth-1) + " & 3)"
	}
	return m.pick("0", "1", "2", "3")
}

func (m *maker) number(depth int) string {
	if depth < 1 {
		if l := m.visible(plain, false); len(l) > 0 && m.Intn(3) > 0 {
			return m.pick(l...)
		}
		return m.literal()
	}
	below := depth - 1
	switch m.Intn(20) {
	case 0, 1, 2:
		return "(" + m.number(below) + " " + m.pick("+", "-", "+", "-", "*") + " " + m.number(below) + ")"
	case 3:
		divisor := m.pick("2", "3", "(- 5)", "100", "7")
		if m.slips() {
			divisor = m.number(below)
		}
		return "(" + m.number(below) + " " + m.pick("/", "rem") + " " + divisor + ")"
	case 4:
		return "(" + m.number(below) + " " + m.pick("&", "|", "xor", "eqv") + " " + m.number(below) + ")"
	case 5:
		return "(" + m.number(below) + " " + m.pick("<<", ">>") + " " + m.pick("0", "1", "3", "15", "16", m.number(below)) + ")"
	case 6, 7:
		return m.relation(below)
	case 8:
		return "(" + m.pick("- ", "~ ") + m.number(below) + ")"
	case 9:
		return "(" + m.condition(below) + " -> " + m.number(below) + ", " + m.number(below) + ")"
	case 10, 11:
		return m.pick("("+m.value(vector, below)+" ! "+m.index(below)+")", "("+m.index(below)+" ! "+m.value(vector, below)+")", "(! "+m.value(single, below)+")", "(! @ ! "+m.value(single, below)+")")
	case 12:
		return m.pick("("+m.value(text, below)+" % "+m.index(below)+")", "("+m.value(bytes, below)+" % "+m.index(below)+")")
	case 13, 14:
		return m.value(proc, below) + "(" + m.number(below) + ")"
	case 15:
		return m.pick("rdch()", "muldiv("+m.number(below)+", "+m.number(below)+", "+m.pick("3", "100", "(- 7)")+")")
	case 16:
		return m.valof(below)
	case 17:
		return m.pick("(slct(4, 2, 0) of ", "(slct(0, 3, 2) of ", "(slct(8, 8, 1) of ", "(m2 of ") + m.value(vector, below) + ")"
	case 18:
		v := m.value(vector, below)
		return "(" + v + " + " + m.index(below) + " - " + v + ")"
	}
	return m.number(0)
}

func (m *maker) relation(depth int) string {
	op := m.pick("=", "~=", "<", "<=", ">", ">=")
	switch m.Intn(6) {
	case 0:
		v := m.pick(append(m.visible(vector, false), "s1")...)
		return "(" + v + " + " + m.index(depth) + " " + op + " " + v + ")"
	case 1:
		s := sort(m.Intn(int(sorts)-1) + 1)
		return "(" + m.value(s, depth) + " " + m.pick("=", "~=") + " " + m.pick(m.value(s, depth), "0", m.value(proc, depth)) + ")"
	}
	return "(" + m.number(depth) + " " + op + " " + m.number(depth) + ")"
}

func (m *maker) condition(depth int) string {
	if m.Intn(8) == 0 {
		return m.value(sort(m.Intn(int(sorts))), depth)
	}
	return m.relation(depth)
}

// apart makes something with what is known there alone.
func (m *maker) apart(change func(), make func() string) string {
	before := *m
	before.vars = slices.Clone(m.vars)
	change()
	s := make()
	m.vars, m.isLoop, m.isSwitch, m.isValof = before.vars, before.isLoop, before.isSwitch, before.isValof
	return s
}

func (m *maker) valof(depth int) string {
	return m.apart(func() { m.isLoop, m.isSwitch, m.isValof = false, false, true }, func() string {
		return "(valof " + m.block(depth, "", func() string { return " ; resultis " + m.number(depth-1) }) + ")"
	})
}

// block makes a block of some items, with something at its beginning and its end.
func (m *maker) block(depth int, first string, last func() string) string {
	return m.apart(func() {}, func() string {
		items := []string{}
		if first != "" {
			items = append(items, first)
		}
		for range 1 + m.Intn(4) {
			items = append(items, m.item(depth))
		}
		return "{ " + strings.Join(items, " ; ") + last() + " }"
	})
}

func noLast() string {
	return ""
}

// fresh returns a name for a local; names are few, so that they hide each other.
func (m *maker) fresh() string {
	return m.pick("a", "b", "c", "d", "e", "f")
}

func (m *maker) know(name string, s sort) {
	m.vars = append(m.vars, variable{name, s, false})
}

func (m *maker) item(depth int) string {
	switch m.Intn(12) {
	case 0, 1:
		return m.let(depth)
	case 2:
		name := m.fresh()
		fill := fmt.Sprintf("let %s = vec %d ; for i = 0 to 3 do %s ! i := ", name, 3+m.Intn(5), name) + m.pick("i", "i * i", "100 - i")
		if m.slips() {
			fill = fmt.Sprintf("let %s = vec %d", name, m.Intn(5))
		}
		m.know(name, vector)
		return fill
	case 3:
		name := m.fresh()
		m.know(name, bytes)
		return fmt.Sprintf("let %s = %s ; for i = %d to 0 by - 1 do %s %% i := i + 'a'", name, m.pick("getvec(2)", "getvec(5)"), 3+m.Intn(3), name)
	case 4:
		if depth > 1 {
			return m.jumping(depth)
		}
	case 5:
		if depth > 1 {
			return m.jumpingBack(depth)
		}
	}
	return m.command(depth)
}

func (m *maker) let(depth int) string {
	var names, values []string
	var all []variable
	for range 1 + m.Intn(2) {
		v := variable{m.fresh(), plain, false}
		if m.Intn(2) == 0 {
			v.sort = sort(m.Intn(int(sorts)))
		}
		if slices.Contains(names, v.name) {
			continue
		}
		names, values, all = append(names, v.name), append(values, m.value(v.sort, depth-1)), append(all, v)
	}
	m.vars = append(m.vars, all...)
	return "let " + strings.Join(names, ", ") + " = " + strings.Join(values, ", ")
}

// label returns a new name for a label.
func (m *maker) label() string {
	m.labels++
	return fmt.Sprintf("l%d", m.labels)
}

// jumping makes a jump over some items. What they declare is there behind it, with nothing, and is given a value there.
func (m *maker) jumping(depth int) string {
	l := m.label()
	jump := m.pick("goto "+l, "if "+m.condition(depth-1)+" do goto "+l, "{ let a = 1 ; goto "+l+" }", "for i = 1 to 3 do { if i = 2 do goto "+l+" }")
	known := len(m.vars)
	between := m.item(depth-1) + " ; " + m.item(depth-1)
	behind := l + " : " + m.pick("", "wrch('.')")
	for _, v := range m.vars[known:] {
		if !m.slips() {
			behind += " ; " + v.name + " := " + map[sort]string{plain: "1", vector: "s1", bytes: "b1", text: "\"abc\"", single: "@ s0", proc: "same"}[v.sort]
		}
	}
	return jump + " ; " + between + " ; " + behind
}

func (m *maker) counter() string {
	m.counters++
	return fmt.Sprintf("k%d", m.counters)
}

// jumpingBack makes a loop of a jump backwards.
func (m *maker) jumpingBack(depth int) string {
	l, k := m.label(), m.counter()
	m.vars = append(m.vars, variable{k, plain, true})
	s := "let " + k + " = 0 ; " + l + " : " + k + " := " + k + " + 1 ; "
	s += m.item(depth-1) + " ; " + m.item(depth-1)
	return s + " ; if " + k + " < " + m.pick("2", "3") + " do " + m.pick("goto "+l, "{ let a = 1 ; goto "+l+" }")
}

func (m *maker) left(depth int) (string, sort) {
	switch m.Intn(7) {
	case 0:
		return m.value(vector, depth) + " ! " + m.index(depth), plain
	case 1:
		return "! " + m.value(single, depth), plain
	case 2:
		return m.value(bytes, depth) + " % " + m.index(depth), plain
	case 3:
		return m.pick("slct(4, 2, 0) of ", "slct(0, 3, 2) of ", "slct(8, 8, 1) of ", "m2 of ", "slct(0, 0, 3) of ") + m.value(vector, depth), plain
	}
	for range 10 {
		s := sort(m.Intn(int(sorts)) * m.Intn(2))
		if l := m.visible(s, true); len(l) > 0 {
			return m.pick(l...), s
		}
	}
	return "s0", plain
}

func (m *maker) assignment(depth int) string {
	var lefts, rights []string
	for range 1 + m.Intn(2) {
		l, s := m.left(depth - 1)
		lefts, rights = append(lefts, l), append(rights, m.value(s, depth-1))
	}
	return strings.Join(lefts, ", ") + " := " + strings.Join(rights, ", ")
}

// loop makes a loop whose counter is its own.
func (m *maker) loop(depth int) string {
	k := m.counter()
	return m.apart(func() { m.isLoop, m.isSwitch = true, false; m.vars = append(m.vars, variable{k, plain, true}) }, func() string {
		body := m.block(depth-1, k+" := "+k+" + 1", noLast)
		most := m.pick("1", "2", "4")
		switch m.Intn(6) {
		case 0:
			return "{ let " + k + " = 0 ; while " + k + " < " + most + " do " + body + " }"
		case 1:
			return "{ let " + k + " = 0 ; until " + k + " >= " + most + " do " + body + " }"
		case 2:
			return "{ let " + k + " = 0 ; " + body + " repeatwhile " + k + " < " + most + " }"
		case 3:
			return "{ let " + k + " = 0 ; " + body + " repeatuntil " + k + " >= " + most + " }"
		}
		return "{ let " + k + " = 0 ; { if " + k + " >= " + most + " do break ; " + body + " } repeat }"
	})
}

func (m *maker) counting(depth int) string {
	name := m.pick("i", m.fresh())
	head := "for " + name + " = " + m.pick("1 to 3", "0 to 2", "3 to 0 by - 1", "1 to 9 by 4", "5 to 1", "1 to ("+m.number(depth-1)+" & 3)") + " do "
	if m.slips() {
		head = "for " + name + " = " + m.number(1) + " to " + m.number(1) + " by " + m.pick("1", "- 1", "32768", "#fffffff0", "m1 + 1", "65537") + " do "
	}
	return head + m.apart(func() { m.isLoop, m.isSwitch = true, false; m.vars = append(m.vars, variable{name, plain, true}) }, func() string { return m.command(depth - 1) })
}

func (m *maker) switching(depth int) string {
	value := m.number(depth-1) + m.pick(" & 3", " rem 3", "")
	return "switchon " + value + " into " + m.apart(func() { m.isSwitch = true }, func() string {
		var items []string
		if m.Intn(4) == 0 {
			items = append(items, "let q = 1")
		}
		for i, c := range []string{"case 0", "case 1 + 0", "case - 1", "default", "case m0"} {
			if m.Intn(4) == 0 {
				continue
			}
			known := slices.Clone(m.vars)
			items = append(items, c+" : "+m.pick("", "case 2"+strings.Repeat("0", i)+" : ")+m.command(depth-1))
			if m.Intn(2) == 0 {
				items = append(items, m.item(depth-1))
			}
			if m.Intn(2) == 0 {
				items = append(items, "endcase")
			}
			m.vars = known // they may have been passed by
		}
		return "{ " + strings.Join(append(items, m.jump()), " ; ") + " }"
	})
}

func (m *maker) jump() string {
	l := []string{"", "", ""}
	if m.isLoop {
		l = append(l, "break", "loop", "if "+m.condition(1)+" do break", "if "+m.condition(1)+" do loop")
	}
	if m.isSwitch {
		l = append(l, "endcase")
	}
	if m.isValof {
		l = append(l, "resultis "+m.number(1))
	} else {
		l = append(l, "if "+m.condition(1)+" do return")
	}
	if m.slips() {
		l = append(l, "finish", "stop("+m.number(1)+")")
	}
	return m.pick(l...)
}

func (m *maker) command(depth int) string {
	if depth < 1 {
		return m.pick(m.jump(), "wrch("+m.number(0)+")", m.assignment(1))
	}
	below := depth - 1
	switch m.Intn(13) {
	case 0:
		return m.pick("if ", "unless ") + m.condition(below) + " do " + m.command(below)
	case 1:
		return "test " + m.condition(below) + " then " + m.command(below) + " else " + m.command(below)
	case 2:
		return m.loop(below)
	case 3:
		return m.counting(below)
	case 4:
		return m.switching(below)
	case 5:
		return m.block(below, "", noLast)
	case 6:
		return m.jump()
	case 7, 8:
		if len(m.routines) > 0 {
			return m.pick(m.routines...) + "(" + m.value(plain, below) + ", " + m.value(vector, below) + ")"
		}
	case 9, 10:
		return "wrch(" + m.number(below) + ")"
	}
	return m.assignment(below)
}

// program makes a whole program: statics, manifests, globals, functions of one number, routines of a number and a vector, and start.
func (m *maker) program() string {
	head := "manifest { m0 = 4 ; m1 = m0 * 5 - 1 ; m2 = slct(2, 1, 1) } static { s0 = 6 ; s1 = 0 ; b1 = 0 } global { g0 : 20 ; g1 : 21 } "
	base := []variable{{"s0", plain, false}, {"g0", plain, false}, {"s1", vector, true}}
	var decls []string
	count := 2 + m.Intn(4)
	for i := count; i > 0; i-- {
		m.vars, m.isValof = append(slices.Clone(base), variable{"x", plain, false}), false
		name := fmt.Sprintf("p%d", i)
		if i%2 == 0 {
			decls = append(decls, "let "+name+"(x) = "+m.pick(m.number(4), m.valof(3)))
			m.procs = append(m.procs, name)
			continue
		}
		m.vars = append(m.vars, variable{"v", vector, false})
		decls = append(decls, "let "+name+"(x, v) be "+m.block(4, "", noLast))
		m.routines = append(m.routines, name)
	}
	m.vars = slices.Clone(base)
	end := func() string { return m.pick("", "", "", " ; stop("+m.number(2)+")", " ; finish") }
	decls = append(decls, "let start() be "+m.block(5, "g0 := 3 ; s1 := table(3, 2, 1, 0) ; b1 := getvec(2) ; for i = 3 to 0 by - 1 do b1 % i := i + 48", end))
	decls = append(decls, "let same(x) = x", "let g1(x) = x + 1")
	m.Shuffle(len(decls), func(i, j int) { decls[i], decls[j] = decls[j], decls[i] })
	return head + strings.Join(decls, " ")
}
