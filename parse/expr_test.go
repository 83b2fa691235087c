package parse_test

import (
	"fmt"
	"testing"

	"bluebell/api"
)

// P3.1, the trees of expressions

func TestSimpleExpressions(t *testing.T) {
	for src, want := range map[string]string{
		"7": "ENum#7@0", " 'a'": "ENum#97@1", "#ffffffff": "ENum#-1@0", "0": "ENum@0", `"it"`: "EStr:it@0", `""`: "EStr@0", "x_1": "EName:x_1@0",
		"true": "ETrue@0", "false": "EFalse@0", "?": "EAny@0", " // (\n ( x ) ": "EName:x@9", "(((1)))": "ENum#1@3",
		"valof {}":                       "EValof@0(CBlock@6(CNull@7))",
		"valof { resultis 1 ; return }":  "EValof@0(CBlock@6(CResult@8(ENum#1@17) CReturn@21))",
		"table(1)":                       "ETable@0(ENum#1@6)",
		"table ( a -> b , c , d , \"\")": "ETable@0(ECond@8(EName:a@8 EName:b@13 EName:c@17) EName:d@21 EStr@25)",
		"slct(1,(2),a+3)":                "ESlct@0(ENum#1@5 ENum#2@8 EBin#4@11(EName:a@11 ENum#3@13))",
	} {
		expr.check(t, src, want)
	}
}

func TestEveryOperator(t *testing.T) {
	for sign, want := range map[string]string{
		"xor": "EBin#10", "eqv": "EBin#11", "|": "EBin#9", "&": "EBin#8", "=": "EBin#12", "~=": "EBin#13", "<": "EBin#14", "<=": "EBin#15", ">": "EBin#16", ">=": "EBin#17",
		"<<": "EBin#6", ">>": "EBin#7", "+": "EBin#4", "-": "EBin#5", "*": "EBin#1", "/": "EBin#2", "rem": "EBin#3", "!": "ESub", "%": "EByte", "of": "ESel",
	} {
		expr.check(t, " (a "+sign+"\n    \tb)", fmt.Sprintf("%s@2(EName:a@2 EName:b@%d)", want, 10+len(sign)))
	}
	expr.check(t, "-a", "EUn#18@0(EName:a@1)")
	expr.check(t, "~a", "EUn#19@0(EName:a@1)")
	expr.check(t, "!a", "ELoad@0(EName:a@1)")
	expr.check(t, "@a", "EAddr@0(EName:a@1)")
	expr.check(t, "a->b,c", "ECond@0(EName:a@0 EName:b@3 EName:c@5)")
	expr.check(t, "a()", "ECall@0(EName:a@0)")
	expr.check(t, "a(b)", "ECall@0(EName:a@0 EName:b@2)")
	expr.check(t, "a(1,2,3,4,5,6,7,8)", "ECall@0(EName:a@0 ENum#1@2 ENum#2@4 ENum#3@6 ENum#4@8 ENum#5@10 ENum#6@12 ENum#7@14 ENum#8@16)")
}

// shape writes an expression of one-letter names with parentheses around all that is not a name.
func shape(n api.Node) string {
	switch n.Op {
	case api.EName:
		return n.S
	case api.EUn:
		return "(" + map[int]string{api.Neg: "-", api.Not: "~"}[n.N] + shape(n.L[0]) + ")"
	case api.ELoad, api.EAddr:
		return "(" + words[n.Op] + shape(n.L[0]) + ")"
	case api.EBin:
		return "(" + shape(n.L[0]) + signs[n.N] + shape(n.L[1]) + ")"
	case api.ESub, api.EByte, api.ESel:
		return "(" + shape(n.L[0]) + words[n.Op] + shape(n.L[1]) + ")"
	case api.ECond:
		return "(" + shape(n.L[0]) + "->" + shape(n.L[1]) + "," + shape(n.L[2]) + ")"
	}
	s := "(" + shape(n.L[0]) + "("
	for i, part := range n.L[1:] {
		if i > 0 {
			s += ","
		}
		s += shape(part)
	}
	return s + "))"
}

func TestLevelsOfOperators(t *testing.T) {
	for src, want := range map[string]string{
		// From the left, within each level.
		"a xor b eqv c xor d": "(((axorb)eqvc)xord)", "a|b|c": "((a|b)|c)", "a&b&c": "((a&b)&c)", "a<<b>>c<<d": "(((a<<b)>>c)<<d)", "a-b+c-d": "(((a-b)+c)-d)", "a*b/c rem d*e": "((((a*b)/c)remd)*e)", "a!b%c of d!e": "((((a!b)%c)ofd)!e)",
		// One level in another.
		"a xor b|c eqv d": "((axor(b|c))eqvd)", "a|b&c|d": "((a|(b&c))|d)", "a&b=c&d": "((a&(b=c))&d)", "a<<b=c>>d": "((a<<b)=(c>>d))", "a+b<<c-d": "((a+b)<<(c-d))", "a*b+c/d-e": "(((a*b)+(c/d))-e)", "a!b*c%d": "((a!b)*(c%d))",
		"!a!b": "((!a)!b)", "a!!b": "(a!(!b))", "a!@b of c": "((a!(@b))ofc)", "!@!a": "(!(@(!a)))", "!f(x)": "(!(f(x)))", "@f(x)(y)": "(@((f(x))(y)))", "(!f)(x)": "((!f)(x))", "f(x)!g(y)": "((f(x))!(g(y)))",
		"~a=b": "(~(a=b))", "~a&~b": "((~a)&(~b))", "~ ~a": "(~(~a))", "a|~b&c": "(a|((~b)&c))", "a&~b&c": "((a&(~b))&c)", "~a xor b": "((~a)xorb)",
		"-a*b+c": "((-(a*b))+c)", "-a-b": "((-a)-b)", "-a!b": "(-(a!b))", "a= -b": "(a=(-b))", "-a= -b": "((-a)=(-b))", "-a<< -b": "((-a)<<(-b))", "a-(-b)": "(a-(-b))", "-(-a)": "(-(-a))", "a*(-b)": "(a*(-b))", "!(-a)": "(!(-a))",
		"a->b,c->d,e": "(a->b,(c->d,e))", "a->b->c,d,e": "(a->(b->c,d),e)", "(a->b,c)->d,e": "((a->b,c)->d,e)", "a xor b->c,d xor e": "((axorb)->c,(dxore))", "a->~b,-c": "(a->(~b),(-c))",
		"f(a->b,c,d)": "(f((a->b,c),d))", "f(a,b->c,d)": "(f(a,(b->c,d)))", "f(~a,-b)": "(f((~a),(-b)))", "f(a)(b)()": "(((f(a))(b))())", "(f)(a)": "(f(a))",
		"a-b-c": "((a-b)-c)", "a-(b-c)": "(a-(b-c))", "(a<b)<c": "((a<b)<c)", "a<(b<c)": "(a<(b<c))", "(a)": "a", "((a)+((b)))": "(a+b)",
	} {
		if got := shape(mustExpr(t, src)); got != want {
			t.Errorf("Expr(%q) is %s; want %s", src, got, want)
		}
	}
}

// Any two operators: the one of the higher level binds, and of two of one level the left one.
func TestTwoOperators(t *testing.T) {
	levels := map[string]int{"xor": 1, "eqv": 1, "|": 2, "&": 3, "=": 5, "~=": 5, "<": 5, "<=": 5, ">": 5, ">=": 5, "<<": 6, ">>": 6, "+": 7, "-": 7, "*": 8, "/": 8, "rem": 8, "!": 9, "%": 9, "of": 9}
	for x, first := range levels {
		for y, second := range levels {
			src := "a " + x + " b " + y + " c"
			if first == 5 && second == 5 {
				expr.checkError(t, src, api.ErrToken, len("a "+x+" b "))
				continue
			}
			want := "((a" + x + "b)" + y + "c)"
			if second > first {
				want = "(a" + x + "(b" + y + "c))"
			}
			if got := shape(mustExpr(t, src)); got != want {
				t.Errorf("Expr(%q) is %s; want %s", src, got, want)
			}
		}
	}
}

func TestPlacesOfExpressions(t *testing.T) {
	for src, want := range map[string]string{
		"((a))+b":     "EBin#4@2(EName:a@2 EName:b@6)",
		"((a-b))*c":   "EBin#1@2(EBin#5@2(EName:a@2 EName:b@4) EName:c@8)",
		"(-a)+b":      "EBin#4@1(EUn#18@1(EName:a@2) EName:b@5)",
		"-(a)+b":      "EBin#4@0(EUn#18@0(EName:a@2) EName:b@5)",
		"a-(b-c)":     "EBin#5@0(EName:a@0 EBin#5@3(EName:b@3 EName:c@5))",
		"~((a)=b)":    "EUn#19@0(EBin#12@3(EName:a@3 EName:b@6))",
		"(a!b)%c":     "EByte@1(ESub@1(EName:a@1 EName:b@3) EName:c@6)",
		"(x)of(y)":    "ESel@1(EName:x@1 EName:y@6)",
		"(a)->(b),c":  "ECond@1(EName:a@1 EName:b@6 EName:c@9)",
		"(f)((x))":    "ECall@1(EName:f@1 EName:x@5)",
		"(@f)()(x)":   "ECall@1(ECall@1(EAddr@1(EName:f@2)) EName:x@7)",
		"(table(1))!": "",
	} {
		if want == "" {
			expr.checkError(t, src, api.ErrToken, len(src))
			continue
		}
		expr.check(t, src, want)
	}
	expr.check(t, "\n valof // v\n { } ( slct ( 1 , 2 , 3 ) )", "ECall@2(EValof@2(CBlock@14(CNull@16)) ESlct@20(ENum#1@27 ENum#2@31 ENum#3@35))")
}

func TestExamples(t *testing.T) {
	expr.check(t, "x!0+1", "EBin#4@0(ESub@0(EName:x@0 ENum@2) ENum#1@4)")
	command.check(t, "f(x) repeatwhile y", "CRepWh@0(CCall@0(ECall@0(EName:f@0 EName:x@2)) EName:y@17)")
}
