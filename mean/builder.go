package mean

import "bluebell/api"

// builder makes functions of the trees of a procedure, so that names are looked for once, and not whenever a node is run. Its lists are what is known at the place to which it has come.
type builder struct {
	*program
	locals []known // the innermost ones last
	labels []known
	slots  int    // that the procedure needs so far
	exits  exit   // of its labels so far
	block  *block // whose items are made
	item   int    // which one of them
}

// known is a name with a local's slot, or with a label's exit.
type known struct {
	name   string
	number int
}

// expression computes the value of a node, and does its step.
type expression func(c *call) value

// command runs a node, and does its step.
type command func(c *call) exit

// exit tells how a command was left: at its end, by a jump to a label of its procedure (firstLabel and above), or as the name says.
type exit int

const (
	onward exit = iota
	broken
	looped
	endcased
	returned
	resulted
	firstLabel
)

// past returns how a command is left in which an exit of one kind leads to the end.
func (e exit) past(own exit) exit {
	if e == own {
		return onward
	}
	return e
}

// last returns the number of the innermost thing with a name.
func last(l []known, name string) (int, bool) {
	for i := len(l) - 1; i >= 0; i-- {
		if l[i].name == name {
			return l[i].number, true
		}
	}
	return 0, false
}

// know makes a local known, in a new slot.
func (b *builder) know(name string) int {
	slot := b.slots
	b.slots++
	b.locals = append(b.locals, known{name, slot})
	return slot
}

// body makes the body of a procedure: a command, or an expression.
func (b *builder) body(n api.Node, isRoutine bool) expression {
	if !isRoutine {
		return b.expression(n)
	}
	run := b.command(n)
	return func(c *call) value {
		run(c)
		return number(0)
	}
}

// variable returns what finds the object of a name.
func (b *builder) variable(name string) func(c *call) *object {
	if slot, ok := last(b.locals, name); ok {
		return func(c *call) *object { return c.locals[slot] }
	}
	o := b.cells[name]
	return func(*call) *object { return o }
}
