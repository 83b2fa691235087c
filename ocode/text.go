package ocode

import (
	"strconv"
	"strings"

	"bluebell/api"
	"bluebell/lex"
)

// Words with which lines begin that are no instructions.
const (
	nameWord  = "code"
	textWord  = "text"
	wordsWord = "words"
	entryWord = "entry"
	endWord   = "end"
)

var opNames = [...]string{
	api.ONum:    "num",
	api.OLocal:  "local",
	api.OPutL:   "putl",
	api.OAddrL:  "addrl",
	api.OGlobal: "global",
	api.OPutG:   "putg",
	api.OAddrG:  "addrg",
	api.OStatic: "static",
	api.OPutS:   "puts",
	api.OAddrS:  "addrs",
	api.OProc:   "proc",
	api.OLoad:   "load",
	api.OStore:  "store",
	api.OGetB:   "getb",
	api.OPutB:   "putb",
	api.OBin:    "bin",
	api.OUn:     "un",
	api.OStack:  "stack",
	api.OLabel:  "label",
	api.OJump:   "jump",
	api.OTrue:   "true",
	api.OFalse:  "false",
	api.OCall:   "call",
	api.OEnter:  "enter",
	api.OReturn: "return",
	api.OBack:   "back",
	api.OResult: "result",
	api.OTake:   "take",
	api.OSwitch: "switch",
	api.OCase:   "case",
}

var operatorNames = [...]string{
	api.Mul: "mul",
	api.Div: "div",
	api.Rem: "rem",
	api.Add: "add",
	api.Sub: "sub",
	api.Shl: "shl",
	api.Shr: "shr",
	api.And: "and",
	api.Or:  "or",
	api.Xor: "xor",
	api.Eqv: "eqv",
	api.Eq:  "eq",
	api.Ne:  "ne",
	api.Lt:  "lt",
	api.Le:  "le",
	api.Gt:  "gt",
	api.Ge:  "ge",
	api.Neg: "neg",
	api.Not: "not",
}

// Text is described in P6.2.
func Text(c api.Code) (string, api.Errno) {
	if err := Check(c); err != api.OK {
		return "", err
	}
	var b strings.Builder
	b.WriteString(lineOf(nameWord, quoted(c.Name)))
	for _, d := range c.Data {
		b.WriteString(areaLine(d))
	}
	for _, e := range c.Globals {
		b.WriteString(lineOf(entryWord, strconv.Itoa(e.Global), strconv.Itoa(e.Proc)))
	}
	for _, o := range c.Ops {
		b.WriteString(instructionLine(o))
	}
	b.WriteString(lineOf(endWord))
	return b.String(), api.OK
}

func lineOf(words ...string) string {
	return strings.Join(words, " ") + "\n"
}

// quoted takes texts that Check has found to be quotable.
func quoted(s string) string {
	q, _ := lex.Quote(s)
	return q
}

func areaLine(d api.Data) string {
	if d.IsText {
		return lineOf(textWord, quoted(d.Text))
	}
	words := []string{wordsWord}
	for _, n := range d.Words {
		words = append(words, strconv.Itoa(n))
	}
	return lineOf(words...)
}

func instructionLine(o api.Op) string {
	name, n := opNames[o.Op], strconv.Itoa(o.N)
	if hasOperator(o.Op) {
		n = operatorNames[o.N]
	}
	if hasSecond(o.Op) {
		return lineOf(name, n, strconv.Itoa(o.M))
	}
	return lineOf(name, n)
}

// hasOperator reports whether an instruction's N is an operator.
func hasOperator(op int) bool {
	return op == api.OBin || op == api.OUn
}

// hasSecond reports whether an instruction has M.
func hasSecond(op int) bool {
	return op == api.OEnter || op == api.OSwitch || op == api.OCase
}
