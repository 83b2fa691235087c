package mean

import (
	"bluebell/api"
	"bluebell/scope"
	"bluebell/word"
)

// given is what a given procedure does with so many arguments.
type given struct {
	params int
	do     func(r *run, args []value) value
}

// givenProcedures returns the procedures that each section knows, by their names.
func givenProcedures() map[string]*procedure {
	table := map[string]given{
		"rdch":    {0, rdch},
		"wrch":    {1, wrch},
		"stop":    {1, stop},
		"getvec":  {1, getvec},
		"freevec": {1, freevec},
		"muldiv":  {3, muldiv},
	}
	procs := map[string]*procedure{}
	for _, name := range scope.Given() {
		g, ok := table[name]
		if !ok {
			g.do = coroutine
		}
		procs[name] = &procedure{name, g.params, func(r *run, args []value) value {
			v := g.do(r, args)
			r.note(name)
			return v
		}}
	}
	return procs
}

func rdch(r *run, _ []value) value {
	if r.input == "" {
		return number(-1)
	}
	c := number(r.input[0])
	r.input = r.input[1:]
	return c
}

func wrch(r *run, args []value) value {
	c := byte(numberOf(args[0]))
	if len(r.out) == api.MaxOutput {
		panic(fault(api.ErrLimit))
	}
	r.out = append(r.out, c)
	return number(0)
}

func stop(_ *run, args []value) value {
	panic(ending{end: api.Stopped, code: int(numberOf(args[0]))})
}

func getvec(r *run, args []value) value {
	cells := int(numberOf(args[0])) + 1
	if cells < 1 || cells > r.left {
		r.keep(false)
		return number(0)
	}
	r.left -= cells
	o := newVector(cells)
	o.isLent = true
	return address{of: o}
}

func freevec(_ *run, args []value) value {
	if n, ok := args[0].(number); ok && n == 0 {
		return number(0)
	}
	a := addressOf(args[0])
	if !a.of.isLent || a.of.ended || a.at != 0 {
		panic(wild())
	}
	a.of.end()
	return number(0)
}

func muldiv(r *run, args []value) value {
	a, b, c := int(numberOf(args[0])), int(numberOf(args[1])), int(numberOf(args[2]))
	q, _, err := word.MulDiv(a, b, c, r.form.Bits)
	if err != api.OK {
		panic(fault(err))
	}
	r.keep(isNarrow(a*b) && isNarrow(a*b/c))
	return number(q)
}

// coroutine is what calls of createco and its like are: what they mean is not told by trees.
func coroutine(*run, []value) value {
	panic(wild())
}
