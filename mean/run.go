package mean

import "bluebell/api"

const mostNames = 1000 // that Trace tells

// run is what a run has beside its calls.
type run struct {
	form         api.Form
	size         int    // bytes of a word
	input        string // what was not read yet
	out          []byte
	steps, fuel  int
	narrow       bool
	calls, words int // of the calls that go on
	left         int // cells that getvec may still give
	isTraced     bool
	names        []string // of the calls that began, if they are traced
}

func newRun(f api.Form, input string, fuel int) *run {
	return &run{form: f, size: f.Bits / 8, input: input, fuel: fuel, left: api.MemSize - api.HeapBase}
}

// ending is how a run ends. It is found deep within calls, so it ends them by a panic.
type ending struct {
	end, code int
	why       api.Errno
}

func wild() ending {
	return ending{end: api.Wild}
}

func fault(why api.Errno) ending {
	return ending{end: api.Fault, why: why}
}

// catch calls a function, and returns how that ended.
func catch(do func()) (e ending) {
	defer func() {
		if found, ok := recover().(ending); ok {
			e = found
		}
	}()
	do()
	return ending{end: api.Done}
}

// perform runs a program, from the call of its start to the end.
func (r *run) perform(start *procedure) api.Result {
	e := catch(func() { start.begin(r, nil) })
	return api.Result{Out: string(r.out), End: e.end, Code: e.code, Why: e.why, Steps: r.steps}
}

// computeAlone computes an expression of which nothing stands in a section.
func (r *run) computeAlone(n api.Node) (v value, err api.Errno) {
	b := builder{program: &program{form: r.form}}
	e := catch(func() { v = b.expression(n)(&call{run: r}) })
	switch e.end {
	case api.Done:
		return v, api.OK
	case api.Fault:
		return nil, e.why
	}
	return nil, api.ErrState
}

// step begins a step.
func (r *run) step() {
	if r.steps == r.fuel {
		panic(ending{end: api.Fuel})
	}
	r.steps++
}

// enter begins a call of a procedure of the section that has so many words.
func (r *run) enter(name string, words int) {
	r.calls++
	r.words += words
	if r.calls > api.MaxCalls || r.words > api.MaxFrame {
		panic(fault(api.ErrRoom))
	}
	r.note(name)
}

// leave ends such a call.
func (r *run) leave(words int) {
	r.calls--
	r.words -= words
}

// note notes the name of a call that begins. Behind the last name that Trace tells the run need not go on.
func (r *run) note(name string) {
	if !r.isTraced {
		return
	}
	r.names = append(r.names, name)
	if len(r.names) == mostNames {
		panic(ending{end: api.Fuel})
	}
}
