package trans

// named is a name, and the number of what it means.
type named struct {
	name   string
	number int
}

// names is those that are known at a place, the innermost last.
type names []named

// know adds a name, which hides those before it.
func (l *names) know(name string, number int) {
	*l = append(*l, named{name, number})
}

// forget leaves the first ones, so many of them.
func (l *names) forget(count int) {
	*l = (*l)[:count]
}

// find returns the number of the innermost name of this text, and whether there is one.
func (l names) find(name string) (int, bool) {
	for i := len(l) - 1; i >= 0; i-- {
		if l[i].name == name {
			return l[i].number, true
		}
	}
	return 0, false
}
