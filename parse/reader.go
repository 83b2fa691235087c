package parse

import "bluebell/api"

// mostOpen is how many parentheses, blocks, prefixes and conditionals may be within each other.
const mostOpen = 4 * api.MaxNest

// failure is what a panic of a reader carries.
type failure struct {
	err api.Errno
	at  int
}

// reader goes through the tokens of a source. The last one, the TEnd, is never taken.
type reader struct {
	tokens []api.Token
	next   int
	nodes  int // that are finished
	open   int // parentheses, blocks, prefixes and conditionals
}

func (r *reader) token() api.Token {
	return r.tokens[r.next]
}

// unexpected is the failure of a token that the grammar does not take.
func (r *reader) unexpected() failure {
	return failure{api.ErrToken, r.token().At}
}

// is reports whether the token is a key or sign.
func (r *reader) is(text string) bool {
	return isFixed(r.token(), text)
}

func isFixed(t api.Token, text string) bool {
	return (t.Kind == api.TKey || t.Kind == api.TSign) && t.S == text
}

// before reports whether these keys and signs are the tokens behind the token.
func (r *reader) before(texts ...string) bool {
	behind := r.tokens[r.next+1:]
	if len(behind) < len(texts) {
		return false
	}
	for i, text := range texts {
		if !isFixed(behind[i], text) {
			return false
		}
	}
	return true
}

// take takes a key or sign, if it is there.
func (r *reader) take(text string) bool {
	there := r.is(text)
	if there {
		r.next++
	}
	return there
}

// want takes a key or sign that has to be there.
func (r *reader) want(text string) {
	if !r.take(text) {
		panic(r.unexpected())
	}
}

// kind takes a token that has to be of a kind.
func (r *reader) kind(kind int) api.Token {
	t := r.token()
	if t.Kind != kind {
		panic(r.unexpected())
	}
	r.next++
	return t
}

// enter takes the key or sign behind which one thing more is open.
func (r *reader) enter(text string) {
	at := r.token().At
	r.want(text)
	r.open++
	if r.open > mostOpen {
		panic(failure{api.ErrDeep, at})
	}
}

func (r *reader) leave() {
	r.open--
}

// made counts a node that is finished.
func (r *reader) made(n api.Node) api.Node {
	r.nodes++
	if r.nodes > api.MaxNodes {
		panic(failure{api.ErrLimit, n.At})
	}
	return n
}

// leaf takes a token that is a node without parts.
func (r *reader) leaf(n api.Node) api.Node {
	n.At = r.token().At
	r.next++
	return r.made(n)
}

// names reads names with commas between them.
func (r *reader) names() []api.Node {
	var l []api.Node
	for {
		t := r.kind(api.TName)
		if len(l) == api.MaxArgs {
			panic(failure{api.ErrLimit, t.At})
		}
		l = append(l, r.made(api.Node{Op: api.EName, S: t.S, At: t.At}))
		if !r.take(",") {
			return l
		}
	}
}

func checkDepth(n api.Node, at int) {
	if Levels(n) > api.MaxNest {
		panic(failure{api.ErrDeep, at})
	}
}
