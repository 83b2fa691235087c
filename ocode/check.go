package ocode

import (
	"math"
	"slices"

	"bluebell/api"
	"bluebell/lex"
)

// Limits of code that have no names in api.
const (
	mostAreas  = 2000
	mostLabels = 20000
	mostCases  = 1000
	mostDepth  = 4000 // also the greatest local
)

// Check is described in P6.1.
func Check(c api.Code) api.Errno {
	_, err := examine(c)
	return err
}

// examine returns the depth before each instruction, or the first error. The order matters: each look takes for granted what those before it have found.
func examine(c api.Code) ([]int, api.Errno) {
	if !isLimited(c) {
		return nil, api.ErrLimit
	}
	if !isQuotable(c.Name) || !areasFit(c.Data) || !entriesFit(c) || !instructionsFit(c) {
		return nil, api.ErrCode
	}
	if !casesFit(c.Ops) || !proceduresFit(c.Ops) || !labelsFit(c) {
		return nil, api.ErrCode
	}
	depths, ok := depthsOf(c.Ops)
	if !ok || !takesFit(c) {
		return nil, api.ErrStack
	}
	return depths, api.OK
}

func within(n, least, most int) bool {
	return least <= n && n <= most
}

func isLimited(c api.Code) bool {
	return len(c.Ops) <= api.MaxOps && len(c.Data) <= mostAreas &&
		max(c.Procs, count(c.Ops, api.OEnter)) <= api.MaxProcs &&
		max(c.Labels, count(c.Ops, api.OLabel)) <= mostLabels &&
		mostWords(c.Data) <= api.StaticSize
}

// count returns how many instructions are this one.
func count(l []api.Op, op int) int {
	n := 0
	for _, o := range l {
		if o.Op == op {
			n++
		}
	}
	return n
}

// greatest returns the greatest number of an instruction, 0 without any.
func greatest(l []api.Op, op int) int {
	n := 0
	for _, o := range l {
		if o.Op == op {
			n = max(n, o.N)
		}
	}
	return n
}

func isQuotable(s string) bool {
	_, err := lex.Quote(s)
	return err == api.OK
}

func areasFit(l []api.Data) bool {
	for _, d := range l {
		if !areaFits(d) {
			return false
		}
	}
	return true
}

func areaFits(d api.Data) bool {
	if d.IsText {
		return isQuotable(d.Text) && len(d.Words) == 0
	}
	return d.Text == "" && len(d.Words) > 0 && !slices.ContainsFunc(d.Words, isBeyond)
}

// isBeyond reports whether a number is no word of any form.
func isBeyond(n int) bool {
	return n < math.MinInt32 || n > math.MaxInt32
}

func entriesFit(c api.Code) bool {
	var taken [api.GlobalSize]bool
	for _, e := range c.Globals {
		if !within(e.Global, 1, api.GlobalSize-1) || taken[e.Global] || !within(e.Proc, 1, c.Procs) {
			return false
		}
		taken[e.Global] = true
	}
	return true
}

// instructionsFit looks at each instruction by itself, and whether Procs and Labels are what they have to be.
func instructionsFit(c api.Code) bool {
	if c.Procs != greatest(c.Ops, api.OEnter) || c.Labels != greatest(c.Ops, api.OLabel) {
		return false
	}
	for _, o := range c.Ops {
		if isBeyond(o.N) || isBeyond(o.M) || !firstFits(o, c) || !secondFits(o, c) {
			return false
		}
	}
	return true
}

// firstFits looks at an instruction's N; of an op that is none, nothing fits.
func firstFits(o api.Op, c api.Code) bool {
	switch o.Op {
	case api.ONum, api.OCase:
		return true
	case api.OLocal, api.OPutL, api.OAddrL, api.OStack, api.OCall, api.OTake:
		return within(o.N, 0, mostDepth)
	case api.OGlobal, api.OPutG, api.OAddrG:
		return within(o.N, 0, api.GlobalSize-1)
	case api.OStatic, api.OPutS, api.OAddrS:
		return within(o.N, 0, len(c.Data)-1)
	case api.OProc, api.OEnter:
		return within(o.N, 1, c.Procs)
	case api.OLabel, api.OJump, api.OTrue, api.OFalse, api.OResult, api.OSwitch:
		return within(o.N, 1, c.Labels)
	case api.OBin:
		return within(o.N, api.Mul, api.Ge)
	case api.OUn:
		return within(o.N, api.Neg, api.Not)
	case api.OLoad, api.OStore, api.OGetB, api.OPutB, api.OReturn, api.OBack:
		return o.N == 0
	}
	return false
}

// secondFits looks at an instruction's M.
func secondFits(o api.Op, c api.Code) bool {
	switch o.Op {
	case api.OEnter:
		return within(o.M, 0, api.MaxArgs)
	case api.OSwitch:
		return within(o.M, 0, mostCases)
	case api.OCase:
		return within(o.M, 1, c.Labels)
	}
	return o.M == 0
}
