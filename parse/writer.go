package parse

import (
	"strconv"

	"madrigal/api"
	"madrigal/lex"
)

// misshapen is thrown at a node that cannot be written.
type misshapen struct{}

// writer writes trees with as few tokens as can be. It does not ask for more than it needs, so what it writes of a tree that is not right can be read as another one, or not at all.
type writer struct {
	tokens     []api.Token
	ops        map[string]operation
	behaviours map[int]func(w *writer, n api.Node, last bool)
}

func newWriter(ops []api.Mix) *writer {
	w := &writer{
		ops: map[string]operation{},
		behaviours: map[int]func(*writer, api.Node, bool){
			api.NdStop:    (*writer).stop,
			api.NdExit:    (*writer).exit,
			api.NdPre:     (*writer).action,
			api.NdChoice:  (*writer).choice,
			api.NdPar:     (*writer).parallel,
			api.NdHide:    (*writer).hide,
			api.NdEnable:  (*writer).enabling,
			api.NdDisable: (*writer).disabling,
			api.NdGuard:   (*writer).guard,
			api.NdLet:     (*writer).let,
			api.NdSome:    (*writer).choiceOver,
			api.NdPick:    (*writer).choiceOver,
			api.NdCall:    (*writer).call,
			api.NdWait:    (*writer).wait,
		},
	}
	for _, m := range ops {
		o := operation{m, nameOf(m)}
		w.ops[o.name] = o
	}
	return w
}

// written returns the shortest text of a tree, if it can be one.
func written(n api.Node) (text string, ok bool) {
	defer func() {
		if _, wrong := recover().(misshapen); wrong {
			text, ok = "", false
		}
	}()
	if !withinLimits(n) {
		return "", false
	}
	ops := declared(n)
	if !toldApart(ops) {
		return "", false
	}
	w := newWriter(ops)
	w.specification(n)
	text, err := lex.Join(w.tokens)
	return text, err == api.OK
}

// part returns an element of a node that has to have it.
func part(n api.Node, i int) api.Node {
	if i >= len(n.L) {
		panic(misshapen{})
	}
	return n.L[i]
}

func (w *writer) take(t api.Token) {
	if len(w.tokens) == api.MaxTokens {
		panic(misshapen{})
	}
	w.tokens = append(w.tokens, t)
}

// put writes words of the language, and signs.
func (w *writer) put(l ...string) {
	for _, s := range l {
		kind := api.TkSign
		if beginsName(s) {
			kind = api.TkKey
		}
		w.take(api.Token{Kind: kind, S: s})
	}
}

func (w *writer) name(s string) { w.take(api.Token{Kind: api.TkName, S: s}) }

func (w *writer) number(n int) { w.take(api.Token{Kind: api.TkNum, N: n}) }

// digits writes a number that is told by its digits.
func (w *writer) digits(s string) {
	n, err := strconv.Atoi(s)
	if err != nil {
		panic(misshapen{})
	}
	w.number(n)
}

// piece writes a name, a name of symbols, or a number.
func (w *writer) piece(s string) {
	switch {
	case beginsNumber(s):
		w.digits(s)
	case beginsName(s):
		w.name(s)
	default:
		w.take(api.Token{Kind: api.TkSym, S: s})
	}
}

func beginsName(s string) bool {
	return s != "" && ('a' <= s[0] && s[0] <= 'z' || 'A' <= s[0] && s[0] <= 'Z')
}

func beginsNumber(s string) bool { return s != "" && '0' <= s[0] && s[0] <= '9' }

// commas writes nodes with commas between.
func (w *writer) commas(l []api.Node, one func(api.Node)) {
	for i, n := range l {
		if i > 0 {
			w.put(",")
		}
		one(n)
	}
}

func (w *writer) names(l []api.Node) {
	w.commas(l, func(n api.Node) { w.name(n.S) })
}

// bracketed writes a list in brackets, nothing if it is empty.
func (w *writer) bracketed(open, end string, l []api.Node, inner func([]api.Node)) {
	if len(l) > 0 {
		w.put(open)
		inner(l)
		w.put(end)
	}
}

// decls writes names with their sorts, once for names that follow each other and share it.
func (w *writer) decls(l []api.Node) {
	for i, n := range l {
		w.name(n.S)
		if i+1 < len(l) && part(l[i+1], 0).S == part(n, 0).S {
			w.put(",")
			continue
		}
		w.put(":")
		w.name(part(n, 0).S)
		if i+1 < len(l) {
			w.put(",")
		}
	}
}

func (w *writer) equality(n api.Node) {
	w.expr(part(n, 0), 0)
	w.put("=")
	w.expr(part(n, 1), 0)
}

func (w *writer) equalities(l []api.Node) { w.commas(l, w.equality) }
