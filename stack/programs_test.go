package stack_test

import (
	"fmt"
	"math/rand"
	"slices"
	"strings"
)

// author writes programs that are tame by what they do, always the same ones: numbers are used as numbers, vectors v have four words with numbers, bytes b have eight bytes, and what divides is not 0. How long they run is left open.
type author struct {
	*rand.Rand
	numbers  []string // locals that may be assigned to
	counters []string // those that may not
	called   []string // procedures that may be called
	count    int      // of names so far
	inLoop   bool
	inSwitch bool
	inValof  bool
}

func newAuthor(seed int64) *author {
	return &author{Rand: rand.New(rand.NewSource(seed))}
}

// one returns one of some texts, with parts put in for the letters N (a number), R (a relation), I (an index), V and B (what has words, and bytes).
func (a *author) one(depth int, texts ...string) string {
	var b strings.Builder
	for _, c := range texts[a.Intn(len(texts))] {
		switch c {
		case 'N':
			b.WriteString(a.number(depth - 1))
		case 'R':
			b.WriteString("(" + a.number(depth-1) + a.one(0, " = ", " ~= ", " < ", " <= ", " > ", " >= ") + a.number(depth-1) + ")")
		case 'I':
			b.WriteString(a.one(depth, "0", "1", "2", "3", "(N & 3)"))
		case 'V':
			b.WriteString(a.one(0, "v", "v", "sv", "table(1, -2, 32767, 40000)", "(@(v!0))"))
		case 'B':
			b.WriteString(a.one(0, "b", "b", "\"some text\""))
		default:
			b.WriteRune(c)
		}
	}
	return b.String()
}

func (a *author) number(depth int) string {
	if depth < 1 {
		names := slices.Concat(a.numbers, a.counters, []string{"m", "s", "g"})
		if a.Intn(2) == 0 {
			return names[a.Intn(len(names))]
		}
		return a.one(0, "0", "1", "2", "7", "(-3)", "100", "32767", "40000", "'a'", "true", "false", "slct(3, 2, 1)", "#7fffffff")
	}
	switch a.Intn(4) {
	case 0:
		return a.one(depth, "(N / 7)", "(N rem 10)", "(N & N)", "(N | N)", "(N xor N)", "(N eqv N)", "(N << 3)", "(N >> 1)", "(N << N)", "(~ N)", "(- N)", "R")
	case 1:
		return a.one(depth, "(V ! I)", "(! V)", "(B % I)", "(I ! V)", "(! @ s)", "(slct(4, 2, 0) of V)", "(slct(0, 3, 2) of V)", "(slct(8, 0, 1) of V)", "(v + I - v)")
	case 2:
		if len(a.called) > 0 && a.Intn(3) == 0 {
			return a.called[a.Intn(len(a.called))] + a.one(depth, "(N, v, b)")
		}
		if a.Intn(4) == 0 {
			return a.valof(depth)
		}
		return a.one(depth, "(R -> N, N)", "rdch()", "muldiv(N, N, 100)", "getvec(- I - 1)", "wrch(N)", "freevec(0)", "id(N)", "p(N)")
	}
	return a.one(depth, "(N + N)", "(N - N)", "(N * N)", "N")
}

// apart writes something, and knows as much as before then.
func (a *author) apart(write func() string) string {
	before := *a
	a.numbers, a.counters = slices.Clone(a.numbers), slices.Clone(a.counters)
	s := write()
	before.count = a.count
	*a = before
	return s
}

func (a *author) valof(depth int) string {
	return a.apart(func() string {
		a.inLoop, a.inSwitch, a.inValof = false, false, true
		return a.one(depth, "(valof "+a.block(depth-1)+")", "(valof { "+a.command(depth-1)+" ; resultis N })")
	})
}

func (a *author) name() string {
	a.count++
	return fmt.Sprint("n", a.count)
}

func (a *author) block(depth int) string {
	return a.apart(func() string {
		var items []string
		for range 1 + a.Intn(4) {
			switch a.Intn(6) {
			case 0:
				name, other := a.name(), a.name()
				items = append(items, "let "+name+", "+other+a.one(depth, " = N, N"))
				a.numbers = append(a.numbers, name, other)
			case 1:
				items = append(items, a.one(0, "let v = vec 3 ; for i = 0 to 3 do v ! i := i * 50", "let v = vec 10 ; v ! 0, v ! 1, v ! 2, v ! 3 := -1, 5, 9, 300", "let b = vec 7 ; for i = 0 to 7 do b % i := 'a' + i"))
			case 2:
				items = append(items, a.jump(depth))
			default:
				items = append(items, a.command(depth))
			}
		}
		return "{ " + strings.Join(items, " ; ") + " }"
	})
}

// jump writes a jump forwards, or backwards for a few times.
func (a *author) jump(depth int) string {
	l := a.name()
	if a.Intn(2) == 0 {
		return a.one(depth, "if R do goto "+l+" ; "+a.command(depth-1)+" ; "+l+" : wrch('.')")
	}
	k := a.name()
	s := "let " + k + " = 0 ; " + l + " : " + k + " := " + k + " + 1 ; "
	a.counters = append(a.counters, k)
	return s + a.command(depth-1) + " ; if " + k + " < 3 do goto " + l
}

// loop writes one whose body counts the turns.
func (a *author) loop(depth int) string {
	return a.apart(func() string {
		a.inLoop, a.inSwitch = true, false
		k := a.name()
		a.counters = append(a.counters, k)
		body := "{ " + k + " := " + k + " + 1 ; " + a.command(depth-1) + " }"
		loop := a.one(depth, "while K < 3 do C", "until K >= 2 do C", "C repeatwhile K < 3", "C repeatuntil K > 2", "{ if K > 2 do break ; C } repeat")
		return "{ let " + k + " = 0 ; " + strings.NewReplacer("K", k, "C", body).Replace(loop) + " }"
	})
}

func (a *author) counting(depth int) string {
	return a.apart(func() string {
		k := a.name()
		head := "for " + k + a.one(depth, " = 1 to 3", " = 3 to 0 by -1", " = 0 to 9 by 4", " = 1 to 0", " = I to (N & 7)") + " do "
		a.inLoop, a.inSwitch = true, false
		a.counters = append(a.counters, k)
		return head + a.command(depth-1)
	})
}

func (a *author) choice(depth int) string {
	head := a.one(depth, "switchon N & 3 into ", "switchon N rem 3 into ", "switchon N into ")
	return a.apart(func() string {
		a.inSwitch = true
		var items []string
		for _, c := range []string{"case 0 : ", "case 1 : case 65537 + 1 : ", "case -1 : ", "default : ", "case m : "} {
			if a.Intn(4) > 0 {
				items = append(items, c+a.command(depth-1), a.one(0, "endcase", "wrch('-')"))
			}
		}
		return head + "{ " + strings.Join(append(items, "wrch(';')"), " ; ") + " }"
	})
}

func (a *author) leave(depth int) string {
	l := []string{"wrch(N)"}
	if a.inLoop {
		l = append(l, "if R do break", "if R do loop")
	}
	if a.inSwitch {
		l = append(l, "endcase")
	}
	if a.inValof {
		l = append(l, "if R do resultis N")
	} else {
		l = append(l, "if R do return")
	}
	return a.one(depth, l...)
}

func (a *author) command(depth int) string {
	if depth < 1 {
		return a.one(1, "wrch(N)", "g := N")
	}
	switch a.Intn(10) {
	case 0:
		return a.one(depth, "if R do ", "unless R do ", "test R then wrch(N) else ") + a.command(depth-1)
	case 1:
		return a.loop(depth)
	case 2:
		return a.counting(depth)
	case 3:
		return a.choice(depth)
	case 4, 5:
		return a.block(depth - 1)
	case 6:
		return a.leave(depth)
	case 7:
		if len(a.numbers) > 0 {
			return a.numbers[a.Intn(len(a.numbers))] + a.one(depth, ", g := N, N")
		}
	case 8:
		return a.one(depth, "v ! I := N", "! v := N", "b % I := N", "slct(4, 2, 0) of v := N", "slct(0, 3, 2) of v := N", "slct(8, 0, 1) of v := N", "s := N", "sv ! I, v ! I := N, N", "p := id", "! @ s := N")
	}
	return a.one(depth, "wrch(N)")
}

// program writes procedures of which each one calls those behind it, and a start.
func (a *author) program() string {
	var decls []string
	for i := range 1 + a.Intn(4) {
		a.numbers, a.counters = []string{"x"}, nil
		a.inValof = false
		name := fmt.Sprint("f", i)
		decls = append(decls, "let "+name+a.one(0, "(x, v, b) be "+a.block(4), "(x, v, b) = "+a.number(4), "(x, v, b) = "+a.valof(4)))
		a.called = append(a.called, name)
	}
	a.numbers, a.inValof = nil, false
	start := "let start() be { let v = vec 3 ; let b = getvec(7) ; for i = 0 to 7 do b % i := i + 48 ; v ! 0, v ! 1, v ! 2, v ! 3 := 1, 20, 300, -4000 ; p := id ; g := 5 ; sv := getvec(3) ; for i = 0 to 3 do sv ! i := i ; " + a.block(5) + a.one(2, "", "", " ; stop(N)", " ; finish") + " }"
	decls = append(decls, start, "let id(x) = x")
	a.Shuffle(len(decls), func(i, j int) { decls[i], decls[j] = decls[j], decls[i] })
	return "manifest { m = 4 } static { s = 6 ; sv = 0 } global { g : 20 ; p : 21 } " + strings.Join(decls, " ")
}
