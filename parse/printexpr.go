package parse

import "bluebell/api"

// part writes an expression at a place that takes every one as it is.
func (w *writer) part(n api.Node) {
	w.expression(n, levelWhole)
}

// expression writes an expression at a place that takes those from a level on.
func (w *writer) expression(n api.Node, place int) {
	if levelOf(n) >= place {
		w.bare(n)
		return
	}
	w.put("(")
	w.bare(n)
	w.put(")")
}

// bare writes an expression without parentheses around it.
func (w *writer) bare(n api.Node) {
	if o, ok := operatorOf(n); ok {
		w.expression(n.L[0], o.leftLevel())
		w.put(o.text)
		w.expression(n.L[1], o.rightLevel())
		return
	}
	switch n.Op {
	case api.ECond:
		w.expression(n.L[0], levelFirst)
		w.put("->")
		w.list(n.L[1:], ",", w.part)
	case api.EUn:
		w.unary(n)
	case api.ELoad:
		w.put("!")
		w.expression(n.L[0], levelPrefix)
	case api.EAddr:
		w.put("@")
		w.expression(n.L[0], levelPrefix)
	case api.ECall:
		w.expression(n.L[0], levelCall)
		w.listed(n.L[1:])
	default:
		w.simple(n)
	}
}

func (w *writer) unary(n api.Node) {
	if n.N == api.Not {
		w.put("~")
		w.expression(n.L[0], levelNot)
		return
	}
	w.put("-")
	w.expression(n.L[0], levelSum+1)
}

// listed writes a list in its parentheses.
func (w *writer) listed(l []api.Node) {
	w.put("(")
	w.list(l, ",", w.part)
	w.put(")")
}

// simple writes an e11.
func (w *writer) simple(n api.Node) {
	switch n.Op {
	case api.ENum:
		w.number(n.N)
	case api.EStr:
		w.quoted(n.S)
	case api.EName:
		w.put(n.S)
	case api.ETrue:
		w.put("true")
	case api.EFalse:
		w.put("false")
	case api.EAny:
		w.put("?")
	case api.EValof:
		w.put("valof")
		w.item(n.L[0])
	case api.ETable:
		w.put("table")
		w.listed(n.L)
	case api.ESlct:
		w.put("slct")
		w.listed(n.L)
	}
}
