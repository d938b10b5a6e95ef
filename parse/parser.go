package parse

import (
	"slices"

	"madrigal/api"
	"madrigal/lex"
)

// rule reads a node by a rule of the grammar.
type rule = func(*parser) api.Node

// start is what a token is to a rule that begins with it: names are all alike.
type start struct {
	kind int
	s    string
}

func startOf(t api.Token) start {
	if t.Kind == api.TkName {
		return start{kind: t.Kind}
	}
	return start{t.Kind, t.S}
}

// parser follows the rules of the grammar. What is done with the tokens of an expression is up to the function extent, which gets the token behind them.
type parser struct {
	*state
	behaviours map[start]rule
	units      map[string]rule
	extent     func(end int) api.Node
}

func newParser(tokens []api.Token, size int, wrong api.Errno) *parser {
	key := func(s string) start { return start{api.TkKey, s} }
	sign := func(s string) start { return start{api.TkSign, s} }
	return &parser{
		state: &state{tokens: tokens, size: size, wrong: wrong},
		behaviours: map[start]rule{
			{kind: api.TkName}: (*parser).actionOrCall,
			sign("["):          (*parser).guard,
			sign("("):          (*parser).group,
			key("i"):           (*parser).action,
			key("wait"):        (*parser).wait,
			key("hide"):        (*parser).hide,
			key("let"):         (*parser).let,
			key("choice"):      (*parser).choiceOver,
			key("stop"):        (*parser).stop,
			key("exit"):        (*parser).exit,
		},
		units: map[string]rule{
			"library": (*parser).library,
			"type":    (*parser).dataType,
			"process": (*parser).process,
		},
	}
}

// read reads a text by a rule: first its syntax, passing over expressions; then all of it, by the operations that find returns for the tree without expressions.
func read(text string, top rule, find func(api.Node) ([]api.Mix, api.Errno)) (api.Node, int, api.Errno) {
	tokens, at, err := lex.Tokens(text)
	if err != api.OK {
		return api.Node{}, at, err
	}
	p := newParser(tokens, len(text), api.ErrSyntax)
	p.extent = func(end int) api.Node {
		p.at = end
		return api.Node{}
	}
	n, at, err := p.whole(top)
	if err != api.OK {
		return api.Node{}, at, err
	}
	ops, err := find(n)
	if err != api.OK {
		return api.Node{}, 0, err
	}
	p = newParser(tokens, len(text), api.ErrExpr)
	p.extent = newReader(p.state, ops).extent
	n, at, err = p.whole(top)
	if err != api.OK {
		return api.Node{}, at, err
	}
	if !withinLimits(n) {
		return api.Node{}, 0, api.ErrLimit
	}
	// What several operations share is one piece of memory so far.
	return rebuilt(n, func(*api.Node) {}), 0, api.OK
}

// whole reads all tokens by a rule.
func (p *parser) whole(top rule) (n api.Node, at int, err api.Errno) {
	defer func() {
		if s, ok := recover().(stopped); ok {
			n, at, err = api.Node{}, s.at, s.err
		}
	}()
	n = top(p)
	if p.at < len(p.tokens) {
		p.refuse()
	}
	return n, 0, api.OK
}

// many reads what begins with one of these words, as often as one follows.
func (p *parser) many(words ...string) []api.Node {
	var l []api.Node
	for slices.ContainsFunc(words, p.sees) {
		l = append(l, p.units[p.look(0).S](p))
	}
	return l
}

// some reads one or more of the same, with commas between.
func (p *parser) some(one rule) []api.Node {
	l := []api.Node{one(p)}
	for p.skip(",") {
		l = append(l, one(p))
	}
	return l
}

func (p *parser) names() []api.Node { return p.some((*parser).name) }

// decls reads names with their sorts.
func (p *parser) decls() []api.Node {
	l := p.shared(api.NdDecl)
	for p.skip(",") {
		l = append(l, p.shared(api.NdDecl)...)
	}
	return l
}

// shared reads names that share a sort.
func (p *parser) shared(kind int) []api.Node {
	l := p.names()
	p.want(":")
	sort := p.name()
	for i := range l {
		l[i].Kind = kind
		l[i].L = []api.Node{sort}
	}
	return l
}

// bracketed reads a list with its brackets; an empty one without tokens, if the first bracket does not stand here.
func (p *parser) bracketed(open, end string, inner func(*parser) []api.Node) api.Node {
	from := p.at
	var l []api.Node
	if p.skip(open) {
		l = inner(p)
		p.want(end)
	}
	return p.node(api.NdList, from, l...)
}

func (p *parser) gates() api.Node { return p.bracketed("[", "]", (*parser).names) }

func (p *parser) params() api.Node { return p.bracketed("(", ")", (*parser).decls) }

// equality reads an Eq.
func (p *parser) equality() api.Node {
	from := p.at
	a := p.expr()
	p.want("=")
	b := p.expr()
	return p.node(api.NdEq, from, a, b)
}

// expr finds the extent of an expression.
func (p *parser) expr() api.Node {
	end := p.extentEnd()
	if end == p.at {
		p.refuse()
	}
	return p.extent(end)
}

// extentEnd returns the token behind the extent of an expression that begins here.
func (p *parser) extentEnd() int {
	open := 0
	for i, t := range p.tokens[p.at:] {
		switch {
		case beginsExpr(t):
			if isFixed(t, "(") {
				open++
			}
		case open > 0 && isFixed(t, ")"):
			open--
		case open > 0 && isFixed(t, ","):
		default:
			return p.at + i
		}
	}
	return len(p.tokens)
}

// beginsExpr reports whether a token stands in the extent of an expression wherever it is.
func beginsExpr(t api.Token) bool {
	return isPart(t) || isNumber(t) || isFixed(t, "of") || isFixed(t, "(")
}
