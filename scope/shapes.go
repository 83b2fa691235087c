package scope

import "bluebell/api"

// The shapes of nodes, by what is known and asked in their parts. What has none of them only has parts.
type (
	procedure struct {
		params []api.Node
		body   api.Node
	}
	let struct {
		names, values []api.Node
	}
	vector struct {
		name string
		size api.Node
	}
	counting struct {
		name         string
		bounds, step []api.Node
		command      api.Node
	}
	loop struct {
		before  []api.Node
		command api.Node
		behind  []api.Node
	}
	choice struct {
		value, block api.Node
	}
	mark struct { // a label, case or default
		constant []api.Node
		command  api.Node
	}
	block struct {
		items []api.Node
	}
	valof struct {
		block api.Node
	}
	assignment struct {
		lefts, rights []api.Node
	}
	address struct {
		of api.Node
	}
	table struct {
		constants []api.Node
	}
	selection struct {
		selector, of api.Node
	}
	plain struct {
		parts []api.Node
	}
)

// shapeOf returns the shape of a node of a valid tree.
func shapeOf(n api.Node) any {
	last := len(n.L) - 1
	switch n.Op {
	case api.DProc:
		return procedure{n.L[:last], n.L[last]}
	case api.CLet:
		return let{n.L[:n.N], n.L[n.N:]}
	case api.CVec:
		return vector{n.S, n.L[0]}
	case api.CFor:
		return counting{n.S, n.L[:2], n.L[2:last], n.L[last]}
	case api.CWhile, api.CUntil:
		return loop{n.L[:1], n.L[1], nil}
	case api.CRepeat, api.CRepWh, api.CRepUn:
		return loop{nil, n.L[0], n.L[1:]}
	case api.CSwitch:
		return choice{n.L[0], n.L[1]}
	case api.CLabel, api.CCase, api.CDefault:
		return mark{n.L[:last], n.L[last]}
	case api.CBlock:
		return block{n.L}
	case api.EValof:
		return valof{n.L[0]}
	case api.CAssign:
		return assignment{n.L[:n.N], n.L[n.N:]}
	case api.EAddr:
		return address{n.L[0]}
	case api.ETable:
		return table{n.L}
	case api.ESel:
		return selection{n.L[0], n.L[1]}
	}
	return plain{n.L}
}
