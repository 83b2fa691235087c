package trans

import "bluebell/api"

const stopGlobal = 4 // the global of the given name stop

// command puts the code of a command, which leaves the depth as it is.
func (w *writer) command(n api.Node) {
	switch n.Op {
	case api.CAssign:
		w.assign(n)
	case api.CCall:
		depth := w.depth
		w.expression(n.L[0])
		w.put(api.OStack, depth)
	case api.CIf:
		w.guarded(n, api.OFalse)
	case api.CUnless:
		w.guarded(n, api.OTrue)
	case api.CTest:
		w.test(n)
	case api.CWhile, api.CUntil, api.CRepeat, api.CRepWh, api.CRepUn, api.CFor:
		w.loop(n)
	case api.CSwitch:
		w.switchon(n)
	case api.CCase:
		w.marked(w.nextCase(), n.L[1])
	case api.CDefault:
		w.marked(w.target(n.Op), n.L[0])
	case api.CLabel:
		label, _ := w.labels.find(n.S)
		w.marked(label, n.L[0])
	case api.CBlock:
		w.block(n.L)
	default:
		w.jump(n)
	}
}

// jump puts the code of a command that leads elsewhere. CNull does not, and has no code.
func (w *writer) jump(n api.Node) {
	switch n.Op {
	case api.CBreak, api.CLoop, api.CEndcase:
		w.put(api.OJump, w.target(n.Op))
	case api.CGoto:
		label, _ := w.labels.find(n.S)
		w.put(api.OJump, label)
	case api.CReturn:
		w.put(api.OBack, 0)
	case api.CResult:
		w.expression(n.L[0])
		w.put(api.OResult, w.target(n.Op))
	case api.CFinish:
		w.finish()
	}
}

// guarded puts a command that is skipped by a jump.
func (w *writer) guarded(n api.Node, jump int) {
	w.expression(n.L[0])
	end := w.newLabel()
	w.put(jump, end)
	w.command(n.L[1])
	w.lab(end, w.depth)
}

func (w *writer) test(n api.Node) {
	w.expression(n.L[0])
	second, end := w.newLabel(), w.newLabel()
	w.put(api.OFalse, second)
	w.command(n.L[1])
	w.put(api.OJump, end)
	w.lab(second, w.depth)
	w.command(n.L[2])
	w.lab(end, w.depth)
}

// finish calls stop with 0.
func (w *writer) finish() {
	depth := w.depth
	w.put(api.OStack, depth+linkSize)
	w.put(api.ONum, 0)
	w.put(api.OGlobal, stopGlobal)
	w.put(api.OCall, depth)
	w.put(api.OStack, depth)
}

// marked puts a command behind its label.
func (w *writer) marked(label int, command api.Node) {
	w.lab(label, w.depth)
	w.command(command)
}

// switchon puts a switch: the labels of its cases are a row, then come those of its default and its end.
func (w *writer) switchon(n api.Node) {
	w.expression(n.L[0])
	cases, hasDefault := casesOf(n.L[1].L)
	first := w.code.Labels + 1
	for range cases {
		w.newLabel()
	}
	leads := []lead{{api.CCase, first}}
	if hasDefault {
		leads = append(leads, lead{api.CDefault, w.newLabel()})
	}
	end := w.newLabel()
	leads = append(leads, lead{api.CEndcase, end})
	// The label behind the cases is that of the default, or of the end without one.
	w.add(api.Op{Op: api.OSwitch, N: first + len(cases), M: len(cases)})
	for i, c := range cases {
		w.add(api.Op{Op: api.OCase, N: w.value(c), M: first + i})
	}
	w.enter(leads...)
	w.block(n.L[1].L)
	w.leave(len(leads))
	w.lab(end, w.depth)
}
