package parse_test

import "testing"

// P3.1, the trees of commands and sections

func TestEveryCommand(t *testing.T) {
	for src, want := range map[string]string{
		"if a do b()":                  "CIf@0(EName:a@3 CCall@8(ECall@8(EName:b@8)))",
		"unless a do ":                 "CUnless@0(EName:a@7 CNull@12)",
		" while a do loop":             "CWhile@1(EName:a@7 CLoop@12)",
		"until a do break":             "CUntil@0(EName:a@6 CBreak@11)",
		"test a then b() else return":  "CTest@0(EName:a@5 CCall@12(ECall@12(EName:b@12)) CReturn@21)",
		"test a then else":             "CTest@0(EName:a@5 CNull@12 CNull@16)",
		"for i=1 to 9 do finish":       "CFor:i@0(ENum#1@6 ENum#9@11 CFinish@16)",
		"for i=1 to 9 by 2 do finish":  "CFor:i#1@0(ENum#1@6 ENum#9@11 ENum#2@16 CFinish@21)",
		"switchon a into {}":           "CSwitch@0(EName:a@9 CBlock@16(CNull@17))",
		"case 1:endcase":               "CCase@0(ENum#1@5 CEndcase@7)",
		"case a : b : c()":             "CCase@0(EName:a@5 CLabel:b@9(CCall@13(ECall@13(EName:c@13))))",
		"default:":                     "CDefault@0(CNull@8)",
		"default: case 1 : goto l":     "CDefault@0(CCase@9(ENum#1@14 CGoto:l@18))",
		"l:":                           "CLabel:l@0(CNull@2)",
		"l:m:if a do":                  "CLabel:l@0(CLabel:m@2(CIf@4(EName:a@7 CNull@11)))",
		"a:=1":                         "CAssign#1@0(EName:a@0 ENum#1@3)",
		"(a),b!1:=b,a":                 "CAssign#2@1(EName:a@1 ESub@4(EName:b@4 ENum#1@6) EName:b@9 EName:a@11)",
		"a->b,c,d:=1,2->3,4":           "CAssign#2@0(ECond@0(EName:a@0 EName:b@3 EName:c@5) EName:d@7 ENum#1@10 ECond@12(ENum#2@12 ENum#3@15 ENum#4@17))",
		"-a:=1":                        "CAssign#1@0(EUn#18@0(EName:a@1) ENum#1@4)",
		"1,~2:=a(),b()":                "CAssign#2@0(ENum#1@0 EUn#19@2(ENum#2@3) ECall@6(EName:a@6) ECall@10(EName:b@10))",
		"f()":                          "CCall@0(ECall@0(EName:f@0))",
		"(f(x))":                       "CCall@1(ECall@1(EName:f@1 EName:x@3))",
		"(!f)(x)(y)":                   "CCall@1(ECall@1(ECall@1(ELoad@1(EName:f@2) EName:x@5) EName:y@8))",
		"valof{}(1)":                   "CCall@0(ECall@0(EValof@0(CBlock@5(CNull@6)) ENum#1@8))",
		"{}":                           "CBlock@0(CNull@1)",
		"{;}":                          "CBlock@0(CNull@1 CNull@2)",
		"{a:=1;}":                      "CBlock@0(CAssign#1@1(EName:a@1 ENum#1@4) CNull@6)",
		"{ break ; { loop } ; f ( ) }": "CBlock@0(CBreak@2 CBlock@10(CLoop@12) CCall@21(ECall@21(EName:f@21)))",
		"resultis a->b,c":              "CResult@0(ECond@9(EName:a@9 EName:b@12 EName:c@14))",
		"goto l":                       "CGoto:l@0",
		"break":                        "CBreak@0", "loop": "CLoop@0", "endcase": "CEndcase@0", "return": "CReturn@0", "finish": "CFinish@0", "": "CNull@0", " // \n": "CNull@5",
	} {
		command.check(t, src, want)
	}
}

func TestTheFormsOfRepeat(t *testing.T) {
	for src, want := range map[string]string{
		" f()repeat":         "CRepeat@1(CCall@1(ECall@1(EName:f@1)))",
		"f()repeatwhile a":   "CRepWh@0(CCall@0(ECall@0(EName:f@0)) EName:a@15)",
		"f()repeatuntil a=b": "CRepUn@0(CCall@0(ECall@0(EName:f@0)) EBin#12@15(EName:a@15 EName:b@17))",
		"break repeat repeatwhile a repeatuntil b": "CRepUn@0(CRepWh@0(CRepeat@0(CBreak@0) EName:a@25) EName:b@39)",
		"(a):=1 repeat":     "CRepeat@1(CAssign#1@1(EName:a@1 ENum#1@5))",
		"{}repeat":          "CRepeat@0(CBlock@0(CNull@1))",
		"resultis 1 repeat": "CRepeat@0(CResult@0(ENum#1@9))",
		"goto l repeat":     "CRepeat@0(CGoto:l@0)",
		"loop repeat":       "CRepeat@0(CLoop@0)", "endcase repeat": "CRepeat@0(CEndcase@0)", "return repeat": "CRepeat@0(CReturn@0)", "finish repeat": "CRepeat@0(CFinish@0)",
		// It belongs to the basic, not to what is around.
		"if a do f()repeat":    "CIf@0(EName:a@3 CRepeat@8(CCall@8(ECall@8(EName:f@8))))",
		"l:f()repeat":          "CLabel:l@0(CRepeat@2(CCall@2(ECall@2(EName:f@2))))",
		"case 1:break repeat":  "CCase@0(ENum#1@5 CRepeat@7(CBreak@7))",
		"{break repeat;break}": "CBlock@0(CRepeat@1(CBreak@1) CBreak@14)",
		"test a then {} repeat else {} repeatwhile b": "CTest@0(EName:a@5 CRepeat@12(CBlock@12(CNull@13)) CRepWh@27(CBlock@27(CNull@28) EName:b@42))",
	} {
		command.check(t, src, want)
	}
}

func TestItems(t *testing.T) {
	for src, want := range map[string]string{
		"{let a=1}":                      "CBlock@0(CLet#1@1(EName:a@5 ENum#1@7))",
		"{let a,b = b , a->1,2 }":        "CBlock@0(CLet#2@1(EName:a@5 EName:b@7 EName:b@11 ECond@15(EName:a@15 ENum#1@18 ENum#2@20)))",
		"{let v=vec 9;let v = valof {}}": "CBlock@0(CVec:v@1(ENum#9@11) CLet#1@13(EName:v@17 EValof@21(CBlock@27(CNull@28))))",
		"{ let v = vec n + 1 ; }":        "CBlock@0(CVec:v@2(EBin#4@14(EName:n@14 ENum#1@18)) CNull@22)",
		"{l:let}":                        "",
	} {
		if want == "" {
			command.checkError(t, src, 30, 3) // a label is before a command, not before another item
			continue
		}
		command.check(t, src, want)
	}
}

func TestElseBelongsToTheNearestTest(t *testing.T) {
	command.check(t, "test a then test b then else else", "CTest@0(EName:a@5 CTest@12(EName:b@17 CNull@24 CNull@29) CNull@33)")
	command.check(t, "test a then if b do else return", "CTest@0(EName:a@5 CIf@12(EName:b@15 CNull@20) CReturn@25)")
	command.check(t, "test a then l: else m:", "CTest@0(EName:a@5 CLabel:l@12(CNull@15) CLabel:m@20(CNull@22))")
}

func TestNothing(t *testing.T) {
	for src, want := range map[string]string{
		"if a do": "CIf@0(EName:a@3 CNull@7)", "{if a do}": "CBlock@0(CIf@1(EName:a@4 CNull@8))", "{if a do;}": "CBlock@0(CIf@1(EName:a@4 CNull@8) CNull@9)", "{ ; ; }": "CBlock@0(CNull@2 CNull@4 CNull@6)",
		"while a do while b do ": "CWhile@0(EName:a@6 CWhile@11(EName:b@17 CNull@22))",
	} {
		command.check(t, src, want)
	}
	section.check(t, "let f()be let g()be and h()be manifest{}let i()be", "DProc:f#1@0(CNull@10) DProc:g#1@10(CNull@20) DProc:h#1@20(CNull@30) DManifest@30 DProc:i#1@40(CNull@49)")
	section.check(t, "let f()be if a do\nstatic{}let g()be l:\nglobal{}", "DProc:f#1@0(CIf@10(EName:a@13 CNull@18)) DStatic@18 DProc:g#1@26(CLabel:l@36(CNull@39)) DGlobal@39")
}

func TestSections(t *testing.T) {
	for src, want := range map[string]string{
		"": "", " // \n": "", `section "s"`: "s: ", `section ""`: "", "manifest {}": "DManifest@0", "static {} global{}": "DStatic@0 DGlobal@10",
		"manifest { a = 1 ; b=a+1 }":                    "DManifest@0(DConst:a@11(ENum#1@15) DConst:b@19(EBin#4@21(EName:a@21 ENum#1@23)))",
		"static{a=\"s\"} manifest{}static{b=table(1)}":  "DStatic@0(DConst:a@7(EStr:s@9)) DManifest@14 DStatic@24(DConst:b@31(ETable@33(ENum#1@39)))",
		" global { f : 20 ; g:a->1,2 } ":                "DGlobal@1(DConst:f@10(ENum#20@14) DConst:g@19(ECond@21(EName:a@21 ENum#1@24 ENum#2@26)))",
		"let f()=1":                                     "DProc:f@0(ENum#1@8)",
		"let f(x,y)=x+y and start()be f(1,2)":           "DProc:f@0(EName:x@6 EName:y@8 EBin#4@11(EName:x@11 EName:y@13)) DProc:start#1@15(CCall@29(ECall@29(EName:f@29 ENum#1@31 ENum#2@33)))",
		"let f()=1 let g()=2 and h()=3 and i()be break": "DProc:f@0(ENum#1@8) DProc:g@10(ENum#2@18) DProc:h@20(ENum#3@28) DProc:i#1@30(CBreak@40)",
		"section \"s\" let f(a,a)be{let a=a}":           "s: DProc:f#1@12(EName:a@18 EName:a@20 CBlock@24(CLet#1@25(EName:a@29 EName:a@31)))",
	} {
		section.check(t, src, want)
	}
}

// However many commands are within each other, a source is read to its end.
func TestManyCommandsWithinEachOther(t *testing.T) {
	for _, x := range []string{"l:", "default:", "if a do ", "case 1:", "test a then else "} {
		src := ""
		for len(src) < 19000 {
			src += x
		}
		command.checkError(t, src, 31, 0)
		command.checkError(t, src+"repeat", 30, len(src))
	}
}
