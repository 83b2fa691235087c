package trans

import "bluebell/api"

// Count is described in P7.3.
func Count(s api.Section) ([]int, api.Errno) {
	c, err := Translate(s)
	if err != api.OK {
		return nil, err
	}
	counts := make([]int, c.Procs)
	proc := 0
	for _, o := range c.Ops {
		if o.Op == api.OEnter {
			proc = o.N
		}
		counts[proc-1]++
	}
	return counts, api.OK
}

// Cross is described in P7.3.
func Cross(s api.Section) ([][2]int, api.Errno) {
	c, err := Translate(s)
	if err != api.OK {
		return nil, err
	}
	var pairs [][2]int
	seen := map[[2]int]bool{}
	proc := 0
	for _, o := range c.Ops {
		if o.Op == api.OEnter {
			proc = o.N
		}
		pair := [2]int{proc, procedureOf(o, c.Globals)}
		if pair[1] != 0 && !seen[pair] {
			seen[pair] = true
			pairs = append(pairs, pair)
		}
	}
	return pairs, api.OK
}

// procedureOf returns the procedure that an instruction pushes, 0 if it pushes none.
func procedureOf(o api.Op, globals []api.Entry) int {
	switch o.Op {
	case api.OProc:
		return o.N
	case api.OGlobal:
		for _, e := range globals {
			if e.Global == o.N {
				return e.Proc
			}
		}
	}
	return 0
}
