package mean_test

import (
	"fmt"
	"slices"
	"strings"
	"testing"

	"bluebell/api"
	"bluebell/mean"
)

// P5.3

func TestTrace(t *testing.T) {
	for src, want := range map[string]string{
		"let start() be { }": "start",
		"let start() be { f(1) ; wrch(65) ; stop(0) } let f(x) be g() let g() = getvec(1)":                                    "start f g getvec wrch",
		"let start() be { f(g(1)) ; f(2) } let f(x) = g(x) let g(x) = x":                                                      "start g f g f g",
		"let start() be f(2) let f(n) be if n > 0 do f(n - 1)":                                                                "start f f f",
		"let start() be { let h = f ; h(1) ; h := wrch ; h(65) ; h := g ; h(1) } let f(x) = x let g(x) = x global { g : 20 }": "start f wrch g",
		"let start() be { rdch() ; wrch(65) ; freevec(getvec(1)) ; freevec(0) ; getvec(- 1) ; muldiv(1, 2, 3) }":              "start rdch wrch getvec freevec freevec getvec muldiv",
		"let start() be { wrch(rdch()) ; finish ; rdch() }":                                                                   "start rdch wrch",
		"let start() be { stop(1) }":                 "start",
		"let start() be { f(stop(1)) } let f(x) = x": "start",
		// What ends the run has no name.
		"let start() be { rdch() ; wrch(?) }":                                       "start rdch",
		"let start() be { rdch() ; muldiv(1, 1, 0) }":                               "start rdch",
		"let start() be { rdch() ; freevec(1) }":                                    "start rdch",
		"let start() be { rdch() ; getvec(?) }":                                     "start rdch",
		"let start() be { rdch() ; stop(?) }":                                       "start rdch",
		"let start() be { rdch() ; createco(start, 10) }":                           "start rdch",
		"let start() be { rdch() ; cowait(1) }":                                     "start rdch",
		"let start() be { rdch() ; f(1) } let f() = 1":                              "start rdch",
		"let start() be { rdch() ; rdch(1) }":                                       "start rdch",
		"let start() be { f(1 / 0) } let f(x) = 1":                                  "start",
		"let start() be { f() ; 1() } let f() = 1":                                  "start f",
		"let start() be { f(1) } let f(x) be { let v = vec 2000 ; f(x) }":           "start" + strings.Repeat(" f", (api.MaxFrame-2-10*5)/(3+2002+10*5)),
		"let start() = start()":                                                     strings.TrimSpace(strings.Repeat("start ", api.MaxCalls)),
		"let start() be { let v = vec 2000 ; let v = vec 2000 ; let v = vec 2000 }": "",
	} {
		for _, f := range forms() {
			l, err := mean.Trace(mustParse(t, src), f, "", enough)
			if err != api.OK || !slices.Equal(l, strings.Fields(want)) {
				t.Errorf("Trace(%s, %v) = %v, %d; want %s", src, f, l, err, want)
			}
		}
	}
}

// A call begins before the steps of what it calls, and behind those of its own.
func TestTraceWithEachFuel(t *testing.T) {
	s := mustParse(t, "let start() be wrch(f(1)) let f(x) = x")
	for fuel, want := range []string{"start", "start", "start", "start", "start", "start f", "start f", "start f wrch", "start f wrch"} {
		l, err := mean.Trace(s, form16, "", fuel)
		if err != api.OK || !slices.Equal(l, strings.Fields(want)) {
			t.Errorf("with the fuel %d: %v, %d; want %s", fuel, l, err, want)
		}
	}
}

func TestTraceIsAtMost1000(t *testing.T) {
	for _, x := range []struct{ calls, want int }{{998, 999}, {999, 1000}, {1000, 1000}, {1001, 1000}, {30000, 1000}} {
		src := fmt.Sprintf("let start() be { for i = 1 to %d do rdch() ; f() } let f() = 1", x.calls-1)
		l, err := mean.Trace(mustParse(t, src), form16, "", enough)
		want := append([]string{"start"}, slices.Repeat([]string{"rdch"}, x.calls-1)...)
		want = append(want, "f")[:x.want]
		if err != api.OK || !slices.Equal(l, want) {
			t.Errorf("%d calls: %d names, %d; want %d", x.calls, len(l), err, x.want)
		}
	}
	l, err := mean.Trace(mustParse(t, "let start() be { f() } repeat let f() = 1"), form16, "", api.MaxSteps)
	if err != api.OK || len(l) != 1000 || l[0] != "start" || l[1] != "f" || l[999] != "f" {
		t.Errorf("%d names, %d", len(l), err)
	}
}
