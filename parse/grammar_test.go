package parse_test

import (
	"regexp"
	"slices"
	"strings"
	"testing"

	"bluebell/api"
	"bluebell/lex"
	"bluebell/parse"
)

// The tests hold the places of ErrToken against a recognizer (Earley's) that works by the text of the grammar alone: the first token with which no source goes on from the beginning so far is the one that the grammar does not take.

// grammar is the chapter's, but for what it says beside it: an assignment and a let have as many parts on both sides (assigned and bound stand for all numbers of them, see modelGrammar), and a call is an expression that is one, also in parentheses.
const grammar = `
section = ["section" string] {decl}
decl    = "manifest" consts | "static" consts | "global" globals | "let" proc {"and" proc}
consts  = "{" [name "=" e {";" name "=" e}] "}"
globals = "{" [name ":" e {";" name ":" e}] "}"
proc    = name "(" [name {"," name}] ")" ("=" e | "be" c)
block   = "{" item {";" item} "}"
item    = "let" bound | "let" name "=" "vec" e | c
c       = "if" e "do" c | "unless" e "do" c | "test" e "then" c "else" c
        | "while" e "do" c | "until" e "do" c
        | "for" name "=" e "to" e ["by" e] "do" c
        | "switchon" e "into" block | "case" e ":" c | "default" ":" c | name ":" c
        | basic {"repeat" | "repeatwhile" e | "repeatuntil" e}
        | nothing
basic   = assigned | call | block | "break" | "loop" | "endcase" | "return" | "finish"
        | "resultis" e | "goto" name
e       = e1 ["->" e "," e]
e1      = e2 {("xor" | "eqv") e2}
e2      = e3 {"|" e3}
e3      = e4 {"&" e4}
e4      = "~" e4 | e5
e5      = e6 [("=" | "~=" | "<" | "<=" | ">" | ">=") e6]
e6      = e7 {("<<" | ">>") e7}
e7      = ("-" e8 | e8) {("+" | "-") e8}
e8      = e9 {("*" | "/" | "rem") e9}
e9      = e10 {("!" | "%" | "of") e10}
e10     = "!" e10 | "@" e10 | e11 {"(" [e {"," e}] ")"}
e11     = number | string | "true" | "false" | "?" | name | "(" e ")" | "valof" block
        | "table" "(" e {"," e} ")" | "slct" "(" e "," e "," e ")"
call    = "(" call ")" | e11 "(" [e {"," e}] ")" {"(" [e {"," e}] ")"}
`

// A rule has symbols on its right: in quotes the keys and signs, without quotes names of rules and kinds of tokens.
type rule struct {
	left  string
	right []string
}

type rules struct {
	l     []rule
	of    map[string][]int
	empty map[string]bool // what may be no token at all
	fresh int
}

func (g *rules) add(left string, right []string) {
	g.of[left] = append(g.of[left], len(g.l))
	g.l = append(g.l, rule{left, right})
}

// ebnf takes the words of a right side apart.
type ebnf struct {
	*rules
	words []string
}

var reWord = regexp.MustCompile(`"[^"]*"|[a-z0-9]+|[\[\]{}()|]`)

func modelGrammar() *rules {
	g := &rules{of: map[string][]int{}, empty: map[string]bool{}}
	text := regexp.MustCompile(`\n +\|`).ReplaceAllString(grammar, " |")
	for _, line := range strings.Split(strings.TrimSpace(text), "\n") {
		left, right, _ := strings.Cut(line, "=")
		(&ebnf{g, reWord.FindAllString(right, -1)}).sides(strings.TrimSpace(left))
	}
	var l, r, n []string
	for range api.MaxArgs {
		l, r, n = withComma(l, "e"), withComma(r, "e"), withComma(n, "name")
		g.add("assigned", slices.Concat(l, []string{`":="`}, r))
		g.add("bound", slices.Concat(n, []string{`"="`}, r))
	}
	for range g.l { // until nothing changes, at the latest
		for _, x := range g.l {
			g.empty[x.left] = g.empty[x.left] || !slices.ContainsFunc(x.right, func(s string) bool { return !g.empty[s] })
		}
	}
	return g
}

func withComma(l []string, symbol string) []string {
	if len(l) > 0 {
		l = append(l, `","`)
	}
	return append(l, symbol)
}

// sides makes the rules of a name, up to the bracket that ends them.
func (p *ebnf) sides(left string) {
	right := []string{}
	for len(p.words) > 0 {
		word := p.words[0]
		p.words = p.words[1:]
		switch word {
		case "|":
			p.add(left, right)
			right = []string{}
		case ")", "]", "}":
			p.add(left, right)
			return
		case "(", "[", "{":
			right = append(right, p.group(word))
		case "nothing":
		default:
			right = append(right, word)
		}
	}
	p.add(left, right)
}

func (p *ebnf) group(bracket string) string {
	p.fresh++
	inner := strings.Repeat("'", p.fresh)
	p.sides(inner)
	switch bracket {
	case "[":
		p.add(inner, nil)
	case "{":
		p.fresh++
		outer := strings.Repeat("'", p.fresh)
		p.add(outer, nil)
		p.add(outer, []string{outer, inner})
		return outer
	}
	return inner
}

// An item says how far a rule is done that began at a token.
type item struct {
	rule, dot, from int
}

// refused returns the number of the first token that does not go on from what is before it, and -1 if all of them are what the rule named start says.
func (g *rules) refused(start string, tokens []api.Token) int {
	sets := make([][]item, len(tokens)+1)
	known := make([]map[item]bool, len(tokens)+1)
	add := func(at int, x item) {
		if known[at] == nil {
			known[at] = map[item]bool{}
		}
		if !known[at][x] {
			known[at][x] = true
			sets[at] = append(sets[at], x)
		}
	}
	for _, x := range g.of[start] {
		add(0, item{x, 0, 0})
	}
	whole := false
	for at := range sets {
		whole = false
		for i := 0; i < len(sets[at]); i++ {
			x := sets[at][i]
			right := g.l[x.rule].right
			if x.dot == len(right) {
				left := g.l[x.rule].left
				whole = whole || x.from == 0 && left == start
				for _, y := range sets[x.from] {
					if r := g.l[y.rule].right; y.dot < len(r) && r[y.dot] == left {
						add(at, item{y.rule, y.dot + 1, y.from})
					}
				}
				continue
			}
			symbol := right[x.dot]
			for _, y := range g.of[symbol] {
				add(at, item{y, 0, at})
			}
			if g.empty[symbol] {
				add(at, item{x.rule, x.dot + 1, x.from})
			}
			if at < len(tokens) && symbol == symbolOf(tokens[at]) {
				add(at+1, item{x.rule, x.dot + 1, x.from})
			}
		}
		if at < len(tokens) && len(sets[at+1]) == 0 {
			return at
		}
	}
	if !whole {
		return len(tokens)
	}
	return -1
}

func symbolOf(t api.Token) string {
	switch t.Kind {
	case api.TName:
		return "name"
	case api.TNumber:
		return "number"
	case api.TString:
		return "string"
	}
	return `"` + t.S + `"`
}

// checkGrammar holds what is read from a rule's sources against the grammar.
func checkGrammar(t *testing.T, g *rules, start string, src string) {
	t.Helper()
	p := map[string]parsing{"section": section, "c": command, "e": expr}[start]
	tokens, err, at := lex.Scan(src)
	if err != api.OK {
		t.Fatalf("Scan(%q): %d at %d", src, err, at)
	}
	want, place := api.OK, 0
	if i := g.refused(start, tokens[:len(tokens)-1]); i >= 0 {
		want, place = api.ErrToken, tokens[i].At
	}
	if _, err, at := p.parse(src); err != want || at != place {
		t.Errorf("%s(%q): %d at %d; want %d at %d", p.name, src, err, at, want, place)
	}
}

func TestTheGrammarOfFewTokens(t *testing.T) {
	g := modelGrammar()
	all := append(append(lex.Keys(), lex.Signs()...), "a", "1", `"s"`)
	for _, start := range []string{"section", "c", "e"} {
		checkGrammar(t, g, start, "")
		for _, x := range all {
			checkGrammar(t, g, start, x)
			for _, y := range all {
				checkGrammar(t, g, start, x+" "+y)
			}
		}
	}
	few := strings.Fields("a ( ) { } , ; : ~ - = -> := let vec case if do repeat valof goto")
	for _, x := range few {
		for _, y := range few {
			for _, z := range few {
				checkGrammar(t, g, "c", x+" "+y+" "+z)
				checkGrammar(t, g, "e", "a "+x+" "+y+" "+z)
			}
		}
	}
}

// changed returns tokens with one more, one less, another one or two in other order.
func (m maker) changed(l []string, all []string) []string {
	l = slices.Clone(l)
	at := m.Intn(len(l) + 1)
	other := all[m.Intn(len(all))]
	if len(l) > 0 && m.Intn(2) == 0 {
		other = l[m.Intn(len(l))]
	}
	if at == len(l) {
		return append(l, other)
	}
	switch m.Intn(4) {
	case 0:
		return slices.Insert(l, at, other)
	case 1:
		return slices.Delete(l, at, at+1)
	case 2:
		l[at] = other
	case 3:
		i := m.Intn(len(l))
		l[at], l[i] = l[i], l[at]
	}
	return l
}

func TestTheGrammarOfMoreTokens(t *testing.T) {
	g := modelGrammar()
	m := newMaker(1)
	all := append(append(lex.Keys(), lex.Signs()...), "a", "1", `"s"`)
	for range 1200 {
		var src, start string
		switch m.Intn(3) {
		case 0:
			start = "section"
			src, _ = parse.Print(m.section(4))
		case 1:
			start = "c"
			src, _ = parse.PrintCommand(m.command(5))
		case 2:
			start = "e"
			src, _ = parse.PrintExpr(m.expr(5))
		}
		tokens, _, _ := lex.Scan(src)
		if len(tokens) > 60 {
			continue
		}
		var l []string
		for _, x := range tokens[:len(tokens)-1] {
			s, _ := lex.Text([]api.Token{x})
			l = append(l, s)
		}
		checkGrammar(t, g, start, strings.Join(l, " "))
		for range 3 {
			checkGrammar(t, g, start, strings.Join(m.changed(l, all), " "))
		}
		checkGrammar(t, g, start, strings.Join(m.changed(m.changed(l, all), all), "\n"))
	}
}
