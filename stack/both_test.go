package stack_test

import (
	"slices"
	"testing"

	"bluebell/api"
	"bluebell/stack"
)

// TestTheModelAgrees goes through runs step by step.
func TestTheModelAgrees(t *testing.T) {
	t.Parallel()
	ends := map[[2]int]int{} // by End and Why
	cos, deep := 0, 0
	eachCode(3000, func(seed int64, c api.Code, f api.Form, input string) {
		m, model := newMachine(t, c, f, input), newModel(c, f, input)
		const fuel = 600
		for range fuel {
			if s := m.State(); s != model.state() {
				t.Fatalf("seed %d by %v: State %v; want %v behind %d steps of %s", seed, f, s, model.state(), model.steps, written(c.Ops))
			}
			if model.steps%3 == 0 {
				l := m.Walk()
				if !slices.Equal(l, model.walk()) {
					t.Fatalf("seed %d by %v: Walk %v; want %v behind %d steps of %s", seed, f, l, model.walk(), model.steps, written(c.Ops))
				}
				deep = max(deep, len(l))
				if len(l) > 1 && l[0].Co != l[len(l)-1].Co {
					cos++
				}
			}
			if model.ended {
				break
			}
			model.step()
			if r := m.Step(1); r != model.sofar() {
				t.Fatalf("seed %d by %v: %v; want %v: %s", seed, f, r, model.sofar(), written(c.Ops))
			}
		}
		r := model.sofar()
		ends[[2]int{r.End, int(r.Why)}]++
		for a := range api.MemSize {
			if w, err := m.Peek(a); w != model.memory[a] || err != api.OK {
				t.Fatalf("seed %d by %v: Peek(%d) is %d, %d; want %d: %s", seed, f, a, w, err, model.memory[a], written(c.Ops))
			}
		}
		if got, err := stack.Run(c, f, input, fuel); got != r || err != api.OK {
			t.Fatalf("seed %d by %v: Run %v, %d; want %v: %s", seed, f, got, err, r, written(c.Ops))
		}
		if l, err := stack.Profile(c, f, input, fuel); !slices.Equal(l, model.profile) || err != api.OK {
			t.Fatalf("seed %d by %v: Profile %v, %d; want %v: %s", seed, f, l, err, model.profile, written(c.Ops))
		}
		if l, err := stack.Cover(c, f, input, fuel); !slices.Equal(l, model.cover) || err != api.OK {
			t.Fatalf("seed %d by %v: Cover %v, %d; want %v: %s", seed, f, l, err, model.cover, written(c.Ops))
		}
	})
	for end, least := range map[[2]int]int{{api.Done, 0}: 300, {api.Stopped, 0}: 20, {api.Fuel, 0}: 300, {api.Fault, int(api.ErrState)}: 300, {api.Fault, int(api.ErrZero)}: 30, {api.Fault, int(api.ErrAddress)}: 30, {api.Fault, int(api.ErrCall)}: 300, {api.Fault, int(api.ErrRoom)}: 200} {
		if ends[end] < least {
			t.Errorf("only %d end with %v", ends[end], end)
		}
	}
	if cos < 10000 || deep < 50 {
		t.Errorf("walks have %d frames at most, and lead to a parent %d times", deep, cos)
	}
}
