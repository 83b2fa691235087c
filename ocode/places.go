package ocode

import (
	"slices"

	"bluebell/api"
)

// named returns where an instruction has the label that it names, nil if it names none.
func named(o *api.Op) *int {
	switch o.Op {
	case api.OJump, api.OTrue, api.OFalse, api.OResult, api.OSwitch:
		return &o.N
	case api.OCase:
		return &o.M
	}
	return nil
}

// goesOn reports whether code goes on behind an instruction to anything but a case.
func goesOn(o api.Op) bool {
	switch o.Op {
	case api.OJump, api.OReturn, api.OBack, api.OResult, api.OSwitch, api.OCase:
		return false
	}
	return true
}

// casesFit reports whether as many cases stand behind each switch as it tells, and none elsewhere.
func casesFit(l []api.Op) bool {
	left := 0
	for _, o := range l {
		if (o.Op == api.OCase) != (left > 0) {
			return false
		}
		switch o.Op {
		case api.OSwitch:
			left = o.M
		case api.OCase:
			left--
		}
	}
	return left == 0
}

// proceduresFit reports whether code is procedures in order, out of which it does not go on.
func proceduresFit(l []api.Op) bool {
	procs := 0
	on := false
	for _, o := range l {
		if o.Op == api.OEnter {
			procs++
			if o.N != procs || on {
				return false
			}
		}
		if procs == 0 {
			return false
		}
		on = goesOn(o)
	}
	return !on
}

// labelsFit reports whether each label is there once, in front of what may stand behind it, and in the procedure in which it is named. Code goes on behind a label, so that proceduresFit lets none be the last instruction.
func labelsFit(c api.Code) bool {
	home := make([]int, c.Labels+1) // the procedure in which a label is, 0 for none
	proc := 0
	for i, o := range c.Ops {
		switch o.Op {
		case api.OEnter:
			proc = o.N
		case api.OLabel:
			if home[o.N] != 0 || !mayFollowLabel(c.Ops[i+1].Op) {
				return false
			}
			home[o.N] = proc
		}
	}
	for _, o := range c.Ops {
		if o.Op == api.OEnter {
			proc = o.N
		}
		if label := named(&o); label != nil && home[*label] != proc {
			return false
		}
	}
	return true
}

// mayFollowLabel tells what may stand directly behind a label.
func mayFollowLabel(op int) bool {
	return op == api.OStack || op == api.OTake || op == api.OLabel
}

// takesFit reports whether results, and nothing else, lead to an OTake.
func takesFit(c api.Code) bool {
	takes := labelsOfTakes(c)
	on := false
	for _, o := range c.Ops {
		if on && o.Op == api.OTake {
			return false
		}
		if label := named(&o); label != nil && takes[*label] != (o.Op == api.OResult) {
			return false
		}
		// Over labels code goes on as before them.
		if o.Op != api.OLabel {
			on = goesOn(o)
		}
	}
	return true
}

// labelsOfTakes tells of each label whether it leads to an OTake.
func labelsOfTakes(c api.Code) []bool {
	takes := make([]bool, c.Labels+1)
	take := false
	for _, o := range slices.Backward(c.Ops) {
		if o.Op == api.OLabel {
			takes[o.N] = take
		} else {
			take = o.Op == api.OTake
		}
	}
	return takes
}
