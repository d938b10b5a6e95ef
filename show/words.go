package show

import (
	"strconv"

	"madrigal/api"
	"madrigal/lex"
)

// failure is thrown where something cannot be written.
type failure struct{ err api.Errno }

// attempt returns the error that is thrown, OK if none is.
func attempt(do func()) (err api.Errno) {
	defer func() {
		if f, ok := recover().(failure); ok {
			err = f.err
		}
	}()
	do()
	return api.OK
}

// some is a number of elements that can be any.
const some = -1

// shape is what nodes of a kind have besides their places: how many elements, and whether a name or a number.
type shape struct {
	elements        int
	named, numbered bool
}

// words is what all writers share: the tokens that were written, and the kinds of texts that were asked for, since to find one takes long.
type words struct {
	tokens []api.Token
	kinds  map[string]int
}

func (w *words) refuse() { panic(failure{api.ErrShown}) }

// check refuses a node of another kind, or of another shape.
func (w *words) check(n api.Node, kind int, s shape) {
	if n.Kind != kind || s.elements != some && len(n.L) != s.elements || !s.named && n.S != "" || !s.numbered && n.N != 0 {
		w.refuse()
	}
}

func (w *words) kind(s string) int {
	kind, known := w.kinds[s]
	if !known {
		kind = lex.Kind(s)
		w.kinds[s] = kind
	}
	return kind
}

func (w *words) take(kind int, s string) {
	w.tokens = append(w.tokens, api.Token{Kind: kind, S: s})
}

// put writes words of the language, and signs.
func (w *words) put(l ...string) {
	for _, s := range l {
		w.take(w.kind(s), s)
	}
}

func (w *words) name(s string) {
	if w.kind(s) != api.TkName {
		w.refuse()
	}
	w.take(api.TkName, s)
}

func (w *words) number(n int) {
	if n < 0 || n > api.MaxNum {
		w.refuse()
	}
	w.tokens = append(w.tokens, api.Token{Kind: api.TkNum, N: n})
}

// digits writes a number that is told by its digits, which have no zeros ahead.
func (w *words) digits(s string) {
	n, err := strconv.Atoi(s)
	if err != nil || strconv.Itoa(n) != s {
		w.refuse()
	}
	w.number(n)
}

// nameNode writes an NdName.
func (w *words) nameNode(n api.Node) {
	w.check(n, api.NdName, shape{named: true})
	w.name(n.S)
}

func (w *words) digitsNode(n api.Node) {
	w.check(n, api.NdName, shape{named: true})
	w.digits(n.S)
}

// list returns the elements of an NdList.
func (w *words) list(n api.Node) []api.Node {
	w.check(n, api.NdList, shape{elements: some})
	return n.L
}

// filled returns the elements of an NdList that cannot be empty.
func (w *words) filled(n api.Node) []api.Node {
	l := w.list(n)
	if len(l) == 0 {
		w.refuse()
	}
	return l
}

// commas writes nodes with commas between.
func (w *words) commas(l []api.Node, one func(api.Node)) {
	for i, n := range l {
		if i > 0 {
			w.put(",")
		}
		one(n)
	}
}

// within writes nodes between two tokens, and nothing if there are none.
func (w *words) within(open string, l []api.Node, one func(api.Node), end string) {
	if len(l) > 0 {
		w.put(open)
		w.commas(l, one)
		w.put(end)
	}
}

func (w *words) names(l []api.Node) { w.commas(l, w.nameNode) }

// typed writes a name and its sort.
func (w *words) typed(n api.Node, kind int) {
	w.check(n, kind, shape{elements: 1, named: true})
	w.name(n.S)
	w.put(":")
	w.nameNode(n.L[0])
}

func (w *words) decl(n api.Node) { w.typed(n, api.NdDecl) }

// withinLimits reports whether a tree has no more nodes, and none deeper, than one that can be read. It looks at no more of it.
func withinLimits(n api.Node) bool {
	left := api.MaxTree
	var fits func(n api.Node, deep int) bool
	fits = func(n api.Node, deep int) bool {
		left--
		if left < 0 || deep > api.MaxUnder {
			return false
		}
		for _, x := range n.L {
			if !fits(x, deep+1) {
				return false
			}
		}
		return true
	}
	return fits(n, 1)
}
