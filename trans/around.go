package trans

import "bluebell/api"

// lead tells to which label a command leads, as a CBreak out of a loop.
type lead struct {
	op, label int
}

// around is where commands lead by the loops, switches and valofs around them, the innermost last. A command that stands where it may not has been refused before, so that the innermost lead is always the right one.
type around struct {
	leads []lead
}

// enter goes into a loop, switch or valof.
func (a *around) enter(l ...lead) {
	a.leads = append(a.leads, l...)
}

// leave goes out of the innermost one, which has so many leads.
func (a *around) leave(count int) {
	a.leads = a.leads[:len(a.leads)-count]
}

// innermost returns the place of the innermost lead of a command.
func (a *around) innermost(op int) int {
	i := len(a.leads) - 1
	for i > 0 && a.leads[i].op != op {
		i--
	}
	return i
}

// target returns the label to which a command leads.
func (a *around) target(op int) int {
	return a.leads[a.innermost(op)].label
}

// nextCase returns the label of the next case of a switch: they are in a row.
func (a *around) nextCase() int {
	l := &a.leads[a.innermost(api.CCase)]
	l.label++
	return l.label - 1
}
