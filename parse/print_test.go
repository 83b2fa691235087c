package parse_test

import (
	"slices"
	"strings"
	"testing"

	"bluebell/api"
	"bluebell/lex"
	"bluebell/parse"
)

// P3.3

func TestPrintExpr(t *testing.T) {
	for src, want := range map[string]string{
		"7": "7", "'a'": "97", "#ff": "255", "#ffffffff": "#ffffffff", "#80000000": "#80000000", "-1": "- 1", "true": "true", "false": "false", "?": "?", "x_1": "x_1", "(((x)))": "x",
		`""`: `""`, `"it's*s*t*n***""`: `"it's *t*n***""`, "table(1)": "table ( 1 )", "table((1),-2)": "table ( 1 , - 2 )", "slct(1,2,3)": "slct ( 1 , 2 , 3 )", "f()": "f ( )", "f(1)(2,(3))": "f ( 1 ) ( 2 , 3 )",
		"valof{}": "valof { }", "valof{resultis(1)}(2)": "valof { resultis 1 } ( 2 )", "valof { ; let a=vec 1 ; }": "valof { ; let a = vec 1 ; }",
		"a-b-c": "a - b - c", "(a-b)-c": "a - b - c", "a-(b-c)": "a - ( b - c )", "(a)+(b)": "a + b", "a->b,(c->d,e)": "a -> b , c -> d , e", "a->(b->c,d),e": "a -> b -> c , d , e", "(a->b,c)->d,e": "( a -> b , c ) -> d , e",
		"(~a)=b": "( ~ a ) = b", "~(a=b)": "~ a = b", "(-a)*b": "( - a ) * b", "-(a*b)": "- a * b", "(-a)+b": "- a + b", "-(a+b)": "- ( a + b )", "-(-a)": "- ( - a )", "~(~a)": "~ ~ a", "(!f)(x)": "( ! f ) ( x )", "!(f(x))": "! f ( x )", "!(a!b)": "! ( a ! b )", "(!a)!b": "! a ! b",
		"(a=b)=c": "( a = b ) = c", "a=(b=c)": "a = ( b = c )", "a&(~b)": "a & ~ b", "(a of b)%c": "a of b % c", "a of(b%c)": "a of ( b % c )",
	} {
		if s, err := parse.PrintExpr(mustExpr(t, src)); s != want || err != api.OK {
			t.Errorf("PrintExpr of %q = %q, %d; want %q", src, s, err, want)
		}
	}
}

// A hole is a part of an expression, and what the grammar takes there: one of some rules.
type hole struct {
	n       api.Node // with the name hole as the part
	takes   string
	printed string
}

func holes() []hole {
	h, a := name("hole"), name("a")
	l := []hole{
		{api.Node{Op: api.EUn, N: api.Neg, L: []api.Node{h}}, "e8", "- hole"}, {api.Node{Op: api.EUn, N: api.Not, L: []api.Node{h}}, "e4", "~ hole"},
		{node(api.ELoad, h), "e10", "! hole"}, {node(api.EAddr, h), "e10", "@ hole"}, {node(api.ECall, h), "e11 call", "hole ( )"}, {node(api.ECall, h, a), "e11 call", "hole ( a )"},
		{node(api.ECall, a, h), "e", "a ( hole )"}, {node(api.ECall, a, a, h, a), "e", "a ( a , hole , a )"}, {node(api.ETable, h), "e", "table ( hole )"}, {node(api.ETable, a, h), "e", "table ( a , hole )"},
		{node(api.ESlct, h, a, a), "e", "slct ( hole , a , a )"}, {node(api.ESlct, a, h, a), "e", "slct ( a , hole , a )"}, {node(api.ESlct, a, a, h), "e", "slct ( a , a , hole )"},
		{node(api.ECond, h, a, a), "e1", "hole -> a , a"}, {node(api.ECond, a, h, a), "e", "a -> hole , a"}, {node(api.ECond, a, a, h), "e", "a -> a , hole"},
		{node(api.EValof, node(api.CBlock, node(api.CResult, h))), "e", "valof { resultis hole }"},
	}
	two := func(op, n int, sign, left, right string) {
		l = append(l, hole{api.Node{Op: op, N: n, L: []api.Node{h, a}}, left, "hole " + sign + " a"}, hole{api.Node{Op: op, N: n, L: []api.Node{a, h}}, right, "a " + sign + " hole"})
	}
	for n, sign := range signs {
		switch n {
		case api.Xor, api.Eqv:
			two(api.EBin, n, sign, "e1", "e2")
		case api.Or:
			two(api.EBin, n, sign, "e2", "e3")
		case api.And:
			two(api.EBin, n, sign, "e3", "e4")
		case api.Eq, api.Ne, api.Lt, api.Le, api.Gt, api.Ge:
			two(api.EBin, n, sign, "e6", "e6")
		case api.Shl, api.Shr:
			two(api.EBin, n, sign, "e6", "e7")
		case api.Add, api.Sub:
			two(api.EBin, n, sign, "e7", "e8")
		default:
			two(api.EBin, n, sign, "e8", "e9")
		}
	}
	for _, op := range []int{api.ESub, api.EByte, api.ESel} {
		two(op, 0, words[op], "e9", "e10")
	}
	return l
}

func filled(n, part api.Node) api.Node {
	if n.Op == api.EName && n.S == "hole" {
		return part
	}
	n = copied(n)
	for i := range n.L {
		n.L[i] = filled(n.L[i], part)
	}
	return n
}

// Every expression at every place of one: the grammar tells whether it has parentheses.
func TestParenthesesStandWhereTheyAreNeeded(t *testing.T) {
	g := modelGrammar()
	parts, _, _ := samples()
	for _, part := range parts {
		inner, err := parse.PrintExpr(part)
		if err != api.OK {
			t.Fatalf("PrintExpr(%s): %d", show(part), err)
		}
		tokens, _, _ := lex.Scan(inner)
		for _, x := range holes() {
			taken := slices.ContainsFunc(strings.Fields(x.takes), func(rule string) bool { return g.refused(rule, tokens[:len(tokens)-1]) < 0 })
			want := strings.Replace(x.printed, "hole", "( "+inner+" )", 1)
			if taken {
				want = strings.Replace(x.printed, "hole", inner, 1)
			}
			if s, err := parse.PrintExpr(filled(x.n, part)); s != want || err != api.OK {
				t.Errorf("PrintExpr(%s) = %q, %d; want %q", show(filled(x.n, part)), s, err, want)
			}
		}
	}
}

// groups returns the places of the parentheses that only group, by pairs: they are not behind the end of an e11, table or slct.
func groups(tokens []api.Token) [][2]int {
	var l [][2]int
	var open []int
	for i, x := range tokens {
		switch {
		case x.Kind == api.TSign && x.S == "(":
			open = append(open, i)
		case x.Kind == api.TSign && x.S == ")":
			from := open[len(open)-1]
			open = open[:len(open)-1]
			if from == 0 || !endsSimple(tokens[from-1]) {
				l = append(l, [2]int{from, i})
			}
		}
	}
	return l
}

func endsSimple(x api.Token) bool {
	return x.Kind != api.TSign && x.Kind != api.TKey || slices.Contains([]string{")", "}", "true", "false", "?", "table", "slct"}, x.S)
}

// No pair of parentheses may be left out.
func TestEveryPairOfParenthesesIsNeeded(t *testing.T) {
	m := newMaker(4)
	pairs := 0
	for range 3000 {
		n := m.expr(6)
		s, err := parse.PrintExpr(n)
		if err != api.OK {
			t.Fatalf("PrintExpr(%s): %d", show(n), err)
		}
		tokens, _, _ := lex.Scan(s)
		for _, pair := range groups(tokens) {
			pairs++
			fewer := slices.Concat(tokens[:pair[0]], tokens[pair[0]+1:pair[1]], tokens[pair[1]+1:])
			src, _ := lex.Text(fewer)
			if other, err, _ := parse.Expr(src); err == api.OK && parse.SameNode(other, n) {
				t.Errorf("PrintExpr = %q, but %q is the same", s, src)
			}
		}
	}
	if pairs < 1000 {
		t.Errorf("only %d pairs", pairs)
	}
}

func TestPrintCommand(t *testing.T) {
	for src, want := range map[string]string{
		"": "", "{}": "{ }", "{;}": "{ ; }", "{x:=1;}": "{ x := 1 ; }", "{;;f()}": "{ ; ; f ( ) }", "a,b:=b,a": "a , b := b , a", "(a)!1,(-b):=(1),(2->3,4)": "a ! 1 , - b := 1 , 2 -> 3 , 4", "f(x)": "f ( x )", "((!f)(x))": "( ! f ) ( x )",
		"if(a)do b()repeat": "if a do b ( ) repeat", "unless a do": "unless a do", "while a do loop": "while a do loop", "until a do{}": "until a do { }", "test a then x()else{}": "test a then x ( ) else { }", "test a then else": "test a then else",
		"f()repeatwhile(y)": "f ( ) repeatwhile y", "break repeat repeatuntil 1 repeat": "break repeat repeatuntil 1 repeat", "for i=1 to 9 do": "for i = 1 to 9 do", "for i=(1)to 9 by-2 do loop": "for i = 1 to 9 by - 2 do loop",
		"switchon x into{case 1:y();endcase;default:}": "switchon x into { case 1 : y ( ) ; endcase ; default : }", "case 1:case 2:default:l:": "case 1 : case 2 : default : l :", "l:m:x()": "l : m : x ( )",
		"return": "return", "finish": "finish", "resultis a->b,c": "resultis a -> b , c", "goto l": "goto l", "{let v=vec(9);let a,b=1,(2);goto l}": "{ let v = vec 9 ; let a , b = 1 , 2 ; goto l }", "{let a=vec_}": "{ let a = vec_ }",
	} {
		if s, err := parse.PrintCommand(mustCommand(t, src)); s != want || err != api.OK {
			t.Errorf("PrintCommand of %q = %q, %d; want %q", src, s, err, want)
		}
	}
}

func TestPrint(t *testing.T) {
	for src, want := range map[string]string{
		"": "\n", `section ""`: "\n", `section "s"`: "section \"s\"\n", `section "*n" let f()=1`: "section \"*n\" let f ( ) = 1\n", "manifest{}": "manifest { }\n", "let f()be": "let f ( ) be\n", "let f()be let g()be{}": "let f ( ) be\nlet g ( ) be { }\n",
		"manifest{a=1}manifest{b=(2);c=-3}": "manifest { a = 1 }\nmanifest { b = 2 ; c = - 3 }\n", "static{a=\"s\";b=table(1)}": "static { a = \"s\" ; b = table ( 1 ) }\n", "global{f:20;g:f->1,2}": "global { f : 20 ; g : f -> 1 , 2 }\n",
		"let f(x,y)=(x+y)and g(a)be f(a)and h()=1": "let f ( x , y ) = x + y\nlet g ( a ) be f ( a )\nlet h ( ) = 1\n", "let f()be l: global{} let g()be if a do": "let f ( ) be l :\nglobal { }\nlet g ( ) be if a do\n",
		"section \"s\" manifest{a=1;b=2} static{} global{f:20}\nlet f(x,y)=x+y and start()be f(1,2)": "section \"s\" manifest { a = 1 ; b = 2 }\nstatic { }\nglobal { f : 20 }\nlet f ( x , y ) = x + y\nlet start ( ) be f ( 1 , 2 )\n",
	} {
		if s, err := parse.Print(mustParse(t, src)); s != want || err != api.OK {
			t.Errorf("Print of %q = %q, %d; want %q", src, s, err, want)
		}
	}
}

// wide returns an expression that is printed with so many bytes, of about 40000: strings in tables.
func wide(bytes int) api.Node {
	n := node(api.ETable)
	long := node(api.ETable, repeated(str(strings.Repeat("s", 100)), 100)...)
	n.L = append(n.L, long, long, long)
	rest := bytes - len("table (  )") - 3*(len("table (  )")+100*102+99*3) - 2*3
	for rest > 0 {
		part := min(rest, 105)
		if rest > part && rest-part < 5 {
			part -= 5
		}
		n.L = append(n.L, str(strings.Repeat("s", part-5)))
		rest -= part
	}
	return n
}

func TestPrintOfManyBytes(t *testing.T) {
	for bytes, want := range map[int]api.Errno{api.MaxSource - 100: api.OK, api.MaxSource - 1: api.OK, api.MaxSource: api.OK, api.MaxSource + 1: api.ErrLimit, api.MaxSource + 100: api.ErrLimit} {
		s, err := parse.PrintExpr(wide(bytes))
		if err != want || err == api.OK && len(s) != bytes || err != api.OK && s != "" {
			t.Errorf("PrintExpr: %d bytes, %d; want %d and %d bytes", len(s), err, want, bytes)
		}
		s, err = parse.PrintCommand(node(api.CResult, wide(bytes-len("resultis "))))
		if err != want || err == api.OK && len(s) != bytes || err != api.OK && s != "" {
			t.Errorf("PrintCommand: %d bytes, %d; want %d and %d bytes", len(s), err, want, bytes)
		}
		s, err = parse.Print(api.Section{Decls: []api.Node{function(wide(bytes - len("let f ( ) = \n")))}})
		if err != want || err == api.OK && len(s) != bytes || err != api.OK && s != "" {
			t.Errorf("Print: %d bytes, %d; want %d and %d bytes", len(s), err, want, bytes)
		}
	}
}

func TestErrorsOfPrinting(t *testing.T) {
	for _, x := range []struct {
		n    api.Node
		want api.Errno
	}{
		{api.Node{}, api.ErrForm}, {num(1 << 31), api.ErrForm}, {node(api.ETable), api.ErrForm}, {node(api.CNull), api.ErrForm}, {node(api.ETable, repeated(num(1), 101)...), api.ErrLimit}, {chain(api.ELoad, 0, 41), api.ErrDeep},
		{node(api.EValof, node(api.CBlock, repeated(node(api.CNull), api.MaxNodes)...)), api.ErrLimit}, {node(api.ETable, wide(41000), num(1<<31)), api.ErrForm}, {node(api.ETable, wide(41000), chain(api.ELoad, 0, 41)), api.ErrDeep},
	} {
		if s, err := parse.PrintExpr(x.n); s != "" || err != x.want {
			t.Errorf("PrintExpr(%.80s) = %q, %d; want %d", show(x.n), s, err, x.want)
		}
		if s, err := parse.PrintCommand(node(api.CResult, x.n)); s != "" || err != x.want {
			t.Errorf("PrintCommand(%.80s) = %q, %d; want %d", show(x.n), s, err, x.want)
		}
		if s, err := parse.Print(api.Section{Name: "s", Decls: []api.Node{function(x.n)}}); s != "" || err != x.want {
			t.Errorf("Print(%.80s) = %q, %d; want %d", show(x.n), s, err, x.want)
		}
	}
}
