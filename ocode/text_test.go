package ocode_test

import (
	"strings"
	"testing"

	"bluebell/api"
	"bluebell/ocode"
)

// P6.2

// lines puts a line feed behind each line.
func lines(l ...string) string {
	return strings.Join(l, "\n") + "\n"
}

const exampleText = `code "an example"
text "a***n*"b*""
words -1 5 2147483647
text ""
entry 1 1
entry 199 2
entry 50 1
enter 1 2
stack 6
num 3
proc 2
call 4
putl 2
local 2
switch 9 2
case -5 4
case 7 9
label 4
stack 4
addrs 0
load 0
false 9
num 0
result 7
label 7
take 4
return 0
label 9
stack 4
back 0
enter 2 1
local 2
un not
num 2
bin shl
return 0
end
`

func checkText(t *testing.T, c api.Code, want string) {
	t.Helper()
	if s, err := ocode.Text(c); s != want || err != api.OK {
		t.Errorf("Text of %.300v = %q, %d; want %q", c, s, err, want)
	}
	if back, err, at := ocode.Read(want); !ocode.Same(back, c) || err != api.OK || at != 0 {
		t.Errorf("Read(%.300q) = %v, %d at %d; want %v", want, back, err, at, c)
	}
}

func TestText(t *testing.T) {
	checkText(t, api.Code{}, "code \"\"\nend\n")
	checkText(t, example(), exampleText)
	checkText(t, api.Code{Name: "a", Data: []api.Data{words(1), text("b"), {Words: []int{-2147483648, 0}}}}, lines(`code "a"`, "words 0", `text "b"`, "words -2147483648 0", "end"))
}

// TestTextOfEveryInstruction has the names of the chapter.
func TestTextOfEveryInstruction(t *testing.T) {
	c := code("enter 1 8, num -2147483648, local 2, putl 3, addrl 4000, global 0, putg 199, addrg 5, static 1, puts 0, addrs 1, proc 1, load, store, num 2147483647, getb, num 1, num 2, putb, num 1, un neg, un not, " +
		"stack 7, label 3, stack 8, jump 3, true 3, false 3, return, num 7, proc 1, call 2, back, result 20, label 20, take 5, switch 3 2, case -2147483648 3, case 2147483647 3")
	c.Data = []api.Data{text("a"), text("b")}
	checkText(t, c, lines(`code ""`, `text "a"`, `text "b"`, "enter 1 8", "num -2147483648", "local 2", "putl 3", "addrl 4000", "global 0", "putg 199", "addrg 5", "static 1", "puts 0", "addrs 1", "proc 1", "load 0", "store 0",
		"num 2147483647", "getb 0", "num 1", "num 2", "putb 0", "num 1", "un neg", "un not", "stack 7", "label 3", "stack 8", "jump 3", "true 3", "false 3", "return 0", "num 7", "proc 1", "call 2", "back 0", "result 20", "label 20", "take 5",
		"switch 3 2", "case -2147483648 3", "case 2147483647 3", "end"))
	for n, name := range strings.Fields(modelOperators)[:api.Ge] {
		checkText(t, body("bin "+name+", back"), lines(`code ""`, "words 1", "words 2", "enter 1 2", "bin "+name, "back 0", "end"))
		if o := body("bin " + name).Ops[1]; o.N != api.Mul+n {
			t.Errorf("%s is %d", name, o.N)
		}
	}
}

// TestTextOfEveryCharacter has names and texts with each byte that a string may have.
func TestTextOfEveryCharacter(t *testing.T) {
	quotes := map[byte]string{'\n': "*n", '\t': "*t", '*': "**", '"': "*\""}
	all, allQuoted := "", ""
	check := func(s, quote string) {
		checkText(t, api.Code{Name: s, Data: []api.Data{text(s), text("x" + s)}}, lines(`code "`+quote+`"`, `text "`+quote+`"`, `text "x`+quote+`"`, "end"))
	}
	for c := range byte(128) {
		quote, ok := quotes[c]
		if !ok && (c < 32 || c > 126) {
			continue
		}
		if !ok {
			quote = string(rune(c))
		}
		check(string(rune(c)), quote)
		all, allQuoted = all+string(rune(c)), allQuoted+quote
	}
	check(all[:50], allQuoted[:len(allQuoted)-len(all[50:])])
	check(all[50:], allQuoted[len(allQuoted)-len(all[50:]):])
	checkText(t, api.Code{Name: strings.Repeat("\n", api.MaxString)}, lines(`code "`+strings.Repeat("*n", api.MaxString)+`"`, "end"))
}

// checkRead takes the error, and the line at which it is told.
func checkRead(t *testing.T, s string, want api.Errno, line int) {
	t.Helper()
	if c, err, at := ocode.Read(s); err != want || at != line || !ocode.Same(c, api.Code{}) {
		t.Errorf("Read(%.200q) = %v, %d at %d; want %d at %d", s, c, err, at, want, line)
	}
}

func TestReadOfNothing(t *testing.T) {
	checkRead(t, "", api.ErrCode, 1)
	checkRead(t, "\n", api.ErrCode, 1)
	checkRead(t, "end\n", api.ErrCode, 1)
	checkRead(t, `code ""`, api.ErrCode, 1)
	checkRead(t, "code \"\"\n", api.ErrCode, 2)
	checkRead(t, "code \"\"\nend", api.ErrCode, 2)
	checkRead(t, "code \"\"\n\nend\n", api.ErrCode, 2)
	for _, behind := range []string{"\n", " ", "end\n", "code \"\"\nend\n", "\x00"} {
		checkRead(t, "code \"\"\nend\n"+behind, api.ErrCode, 3)
	}
}

func TestReadOfNames(t *testing.T) {
	for _, s := range []string{
		"code", "code ", "code a", `code "`, `code "a`, `code "a" `, `code  "a"`, ` code "a"`, `code"a"`, `Code "a"`, `code "a" "b"`, `code ""a`, `code "a"//`, `name "a"`, `code 'a'`, "code \"a\r\"", "code \"a\"\r",
		`code "*s"`, `code "*'"`, `code "*x"`, `code "*"`, "code \"\t\"", `code "é"`, "code \"\x00\"", `code "` + strings.Repeat("a", api.MaxString+1) + `"`, `code "` + strings.Repeat("a", 50000) + `"`,
	} {
		checkRead(t, lines(s, "end"), api.ErrCode, 1)
		checkRead(t, lines(`code ""`, strings.Replace(s, "code", "text", 1), "end"), api.ErrCode, 2)
	}
}

func TestReadOfLines(t *testing.T) {
	for _, s := range []string{
		"words", "words ", "words a", "words  1", "words 1 ", "words 1  2", " words 1", "words 1,2", "words -", "words --1", "words \"a\"", "words 1 a", "word 1", "words 1\t2",
		"text", `text 1`, `text "a" "b"`, "text a",
		"entry", "entry 1", "entry 1 1 1", "entry  1 1", "entry 1 1 ", "entry a 1", "entry 1 a",
		"", " ", "x", "foo 1", "Num 1", "num", "num ", "num 1 0", "num 1 ", " num 1", "num  1", "num\t1", "num a", "num 1a", "num 0x1", "num 1_0", "num 1.0", "num -", "num \"1\"",
		"bin", "bin ", "bin neg", "bin not", "bin 1", "bin add 0", "bin Add", "bin add ", "bin  add", "un", "un mul", "un ge", "un 18", "un neg 0", "un ",
		"load", "load ", "store", "getb", "putb", "return", "back", "load 0 0", "back 0 0",
		"enter 1", "enter 1 ", "enter", "enter 1 0 0", "switch 1", "switch 1 0 0", "case 1", "case 1 1 1", "case", "enter 1  0",
		"jump", "jump 1 1", "label", "label 1 0", "end ", " end", "End", "end 0", "code \"\"", "num 1\r", "end\r",
	} {
		checkRead(t, lines(`code ""`, s, "end"), api.ErrCode, 2)
		checkRead(t, lines(`code "a"`, "words 1", "entry 1 1", "enter 1 0", s, "back 0", "end"), api.ErrCode, 5)
	}
}

// TestReadOfNumbers has numbers that are not as Go writes them in the places of all numbers.
func TestReadOfNumbers(t *testing.T) {
	wrong := []string{"+1", "01", "00", "-0", "-01", "--1", "007", "1e1", "#1", "9223372036854775808", "-9223372036854775809", "99999999999999999999999", "0000000000000000000000001"}
	for _, n := range wrong {
		for _, s := range []string{"words N", "words 1 N", "words N 1", "entry N 1", "entry 1 N", "num N", "local N", "load N", "return N", "label N", "enter N 0", "enter 1 N", "switch N 0", "switch 1 N", "case N 1", "case 1 N"} {
			checkRead(t, lines(`code ""`, strings.Replace(s, "N", n, 1), "end"), api.ErrCode, 2)
		}
	}
	// As Go writes them, but no numbers that code has: that is told by Check.
	for _, n := range []string{"2147483648", "-2147483649", "9223372036854775807", "-9223372036854775808"} {
		for _, s := range []string{"words N", "words 1 N", "entry N 1", "entry 1 N"} {
			checkRead(t, lines(`code ""`, strings.Replace(s, "N", n, 1), "end"), api.ErrCode, 0)
		}
		for _, s := range []string{"num N", "local N", "load N", "switch 1 N", "case N 1"} {
			checkRead(t, lines(`code ""`, "enter 1 0", strings.Replace(s, "N", n, 1), "back 0", "end"), api.ErrCode, 0)
		}
	}
}

func TestReadOfOrder(t *testing.T) {
	parts := []string{`text "a"`, "entry 1 1", "enter 1 0", "back 0"}
	for i := range parts {
		for j := range i {
			if j == 2 {
				continue // instructions stand in any order
			}
			// A line that belongs before the others is the first one that is not as said.
			checkRead(t, lines(`code ""`, parts[i], parts[j], "end"), api.ErrCode, 3)
		}
		checkRead(t, lines(parts[i], `code ""`, "end"), api.ErrCode, 1)
		checkRead(t, lines(`code ""`, parts[i], `code ""`, "end"), api.ErrCode, 3)
		checkRead(t, lines(`code ""`, "end", parts[i]), api.ErrCode, 3)
		checkRead(t, lines(`code ""`, "end", parts[i], "end"), api.ErrCode, 3)
	}
	checkRead(t, lines(`code ""`, `text "a"`, "words 1", `text "b"`, "entry 1 1", "words 1", "enter 1 0", "back 0", "end"), api.ErrCode, 6)
	checkRead(t, lines(`code ""`, "num x", "num y"), api.ErrCode, 2) // the first of several
}

// TestReadOfErrors has texts whose lines are all as said, and Check's error.
func TestReadOfErrors(t *testing.T) {
	checkRead(t, lines(`code ""`, "num 1", "end"), api.ErrCode, 0)
	checkRead(t, lines(`code ""`, "enter 2 0", "back 0", "end"), api.ErrCode, 0)
	checkRead(t, lines(`code ""`, "enter -1 0", "back 0", "end"), api.ErrCode, 0)
	checkRead(t, lines(`code ""`, "enter 1 0", "label -1", "stack 2", "back 0", "end"), api.ErrCode, 0)
	checkRead(t, lines(`code ""`, "entry 1 1", "end"), api.ErrCode, 0)
	checkRead(t, lines(`code ""`, "enter 1 0", "jump 1", "end"), api.ErrCode, 0)
	checkRead(t, lines(`code ""`, "enter 1 0", "load 1", "back 0", "end"), api.ErrCode, 0)
	checkRead(t, lines(`code ""`, "enter 1 0", "local 2", "return 0", "end"), api.ErrStack, 0)
	checkRead(t, lines(`code ""`, "enter 1 0", "return 0", "end"), api.ErrStack, 0)
	checkRead(t, lines(`code ""`, "enter 201 0", "back 0", "end"), api.ErrLimit, 0)
	checkRead(t, lines(`code ""`, "enter 1 0", "label 20001", "stack 2", "back 0", "end"), api.ErrLimit, 0)
	checkRead(t, lines(`code ""`, "words"+strings.Repeat(" 1", api.StaticSize+1), "end"), api.ErrLimit, 0)
	checkRead(t, lines(`code ""`, strings.Repeat("words 1\n", 2000)+"words 1", "end"), api.ErrLimit, 0)
	long := `code ""` + "\nenter 1 0\n" + strings.Repeat("stack 2\n", api.MaxOps-1)
	checkRead(t, long+"back 0\nend\n", api.ErrLimit, 0)
	checkRead(t, long+"back\nend\n", api.ErrCode, api.MaxOps+2) // lines that are not as said come before limits
}

// TestReadOfGreatestNumbers has Procs and Labels as they are there.
func TestReadOfGreatestNumbers(t *testing.T) {
	for _, x := range []struct {
		src           string
		procs, labels int
	}{
		{"code \"\"\nend\n", 0, 0},
		{"code \"\"\nenter 1 0\nback 0\nenter 2 0\nback 0\n" + "end\n", 2, 0},
		{"code \"\"\nenter 1 0\nlabel 7\nlabel 3\nstack 2\njump 7\nend\n", 1, 7},
		{"code \"\"\nenter 1 0\nlabel 20000\nstack 2\nback 0\nend\n", 1, 20000},
	} {
		if c, err, at := ocode.Read(x.src); c.Procs != x.procs || c.Labels != x.labels || err != api.OK || at != 0 {
			t.Errorf("Read(%q) = %v, %d at %d", x.src, c, err, at)
		}
	}
}
