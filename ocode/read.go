package ocode

import (
	"strconv"
	"strings"

	"bluebell/api"
	"bluebell/lex"
)

// reader reads the text of code line by line. A line that is not as a function asks is left to the next one; the line that none of them takes is the first that is not as said.
type reader struct {
	code api.Code
	rest string // the text from the line at hand on
	line int    // its number
}

// Read is described in P6.2.
func Read(s string) (api.Code, api.Errno, int) {
	r := reader{rest: s, line: 1}
	if !r.whole() {
		return api.Code{}, api.ErrCode, r.line
	}
	r.code.Procs = greatest(r.code.Ops, api.OEnter)
	r.code.Labels = greatest(r.code.Ops, api.OLabel)
	if err := Check(r.code); err != api.OK {
		return api.Code{}, err, 0
	}
	return r.code, api.OK, 0
}

func (r *reader) whole() bool {
	if !r.take(r.name) {
		return false
	}
	for r.take(r.area) {
	}
	for r.take(r.entry) {
	}
	for r.take(r.instruction) {
	}
	return r.take(isEnd) && r.rest == ""
}

// take goes on to the next line if a function reads the one at hand.
func (r *reader) take(read func(line string) bool) bool {
	line, rest, ended := strings.Cut(r.rest, "\n")
	if !ended || !read(line) {
		return false
	}
	r.rest = rest
	r.line++
	return true
}

func isEnd(line string) bool {
	return line == endWord
}

func (r *reader) name(line string) bool {
	word, rest, _ := strings.Cut(line, " ")
	name, ok := unquoted(rest)
	if word != nameWord || !ok {
		return false
	}
	r.code.Name = name
	return true
}

func (r *reader) area(line string) bool {
	word, rest, _ := strings.Cut(line, " ")
	var d api.Data
	var ok bool
	switch word {
	case textWord:
		d.IsText = true
		d.Text, ok = unquoted(rest)
	case wordsWord:
		d.Words, ok = numbers(rest)
	}
	if ok {
		r.code.Data = append(r.code.Data, d)
	}
	return ok
}

func (r *reader) entry(line string) bool {
	word, rest, _ := strings.Cut(line, " ")
	l, ok := numbers(rest)
	if word != entryWord || !ok || len(l) != 2 {
		return false
	}
	r.code.Globals = append(r.code.Globals, api.Entry{Global: l[0], Proc: l[1]})
	return true
}

func (r *reader) instruction(line string) bool {
	word, rest, _ := strings.Cut(line, " ")
	op, ok := opNamed(word)
	if !ok {
		return false
	}
	o, ok := withNumbers(op, rest)
	if ok {
		r.code.Ops = append(r.code.Ops, o)
	}
	return ok
}

// withNumbers returns an instruction with what stands behind its name.
func withNumbers(op int, rest string) (api.Op, bool) {
	if hasOperator(op) {
		n, ok := operatorNamed(op, rest)
		return api.Op{Op: op, N: n}, ok
	}
	l, ok := numbers(rest)
	if ok && len(l) == 2 && hasSecond(op) {
		return api.Op{Op: op, N: l[0], M: l[1]}, true
	}
	if ok && len(l) == 1 && !hasSecond(op) {
		return api.Op{Op: op, N: l[0]}, true
	}
	return api.Op{}, false
}

func opNamed(name string) (int, bool) {
	for op, known := range opNames {
		if op >= api.ONum && known == name {
			return op, true
		}
	}
	return 0, false
}

// operatorNamed returns the operator of OBin or OUn with a name.
func operatorNamed(op int, name string) (int, bool) {
	for n, known := range operatorNames {
		if n >= api.Mul && known == name {
			return n, (op == api.OUn) == (n >= api.Neg)
		}
	}
	return 0, false
}

// unquoted returns the text that lex.Quote writes so.
func unquoted(quote string) (string, bool) {
	l, err, _ := lex.Scan(quote)
	if err != api.OK || l[0].Kind != api.TString {
		return "", false
	}
	// A token can be written in other ways, and more can stand behind it.
	return l[0].S, quoted(l[0].S) == quote
}

// numbers returns one or more numbers with a blank between any two.
func numbers(s string) ([]int, bool) {
	var l []int
	for part := range strings.SplitSeq(s, " ") {
		n, err := strconv.Atoi(part)
		if err != nil || strconv.Itoa(n) != part {
			return nil, false
		}
		l = append(l, n)
	}
	return l, true
}
