package parse

import (
	"slices"

	"madrigal/api"
)

// behaviour reads a Beh.
func (p *parser) behaviour() api.Node {
	from := p.at
	first := p.disabling()
	if !p.skip(">>") {
		return first
	}
	vars := p.list()
	if p.skip("accept") {
		vars = p.list(p.decls()...)
		p.want("in")
	}
	second := p.behaviour()
	return p.node(api.NdEnable, from, vars, first, second)
}

// disabling reads a Dis.
func (p *parser) disabling() api.Node {
	from := p.at
	first := p.parallel()
	if !p.skip("[>") {
		return first
	}
	second := p.disabling()
	return p.node(api.NdDisable, from, first, second)
}

// parallel reads a Parts.
func (p *parser) parallel() api.Node {
	from := p.at
	first := p.choice()
	sign := p.look(0).S
	var gates api.Node
	switch {
	case p.skip("|||"), p.skip("||"):
		gates = p.list()
	case p.skip("|["):
		gates = p.list(p.names()...)
		p.want("]|")
	default:
		return first
	}
	second := p.parallel()
	return p.named(api.NdPar, from, sign, gates, first, second)
}

// choice reads a Sum.
func (p *parser) choice() api.Node {
	from := p.at
	first := p.single()
	if !p.skip("[]") {
		return first
	}
	second := p.choice()
	return p.node(api.NdChoice, from, first, second)
}

// single reads a Pre: by its first token it is known which one.
func (p *parser) single() api.Node {
	read, ok := p.behaviours[startOf(p.look(0))]
	if !ok {
		p.refuse()
	}
	return read(p)
}

func (p *parser) actionOrCall() api.Node {
	behind := p.look(1)
	if behind.Kind == api.TkSign && slices.Contains([]string{"!", "?", "{", ";"}, behind.S) {
		return p.action()
	}
	return p.call()
}

// action reads an action at a gate or an internal one, whose first token is known to be right.
func (p *parser) action() api.Node {
	from := p.at
	p.at++
	gate := p.named(api.NdName, from, p.tokens[from].S)
	offers := p.list(p.offers()...)
	conds := p.list()
	if len(offers.L) > 0 && p.sees("[") {
		conds = p.conditions()
	}
	windows := p.list()
	if p.sees("{") {
		windows = p.list(p.window())
	}
	p.want(";")
	behind := p.single()
	return p.node(api.NdPre, from, gate, offers, conds, windows, behind)
}

func (p *parser) offers() []api.Node {
	var l []api.Node
	for {
		from := p.at
		switch {
		case p.skip("!"):
			value := p.expr()
			l = append(l, p.node(api.NdGive, from, value))
		case p.skip("?"):
			l = append(l, p.shared(api.NdTake)...)
		default:
			return l
		}
	}
}

// conditions reads equalities in brackets, which are no part of the list.
func (p *parser) conditions() api.Node {
	p.want("[")
	l := p.list(p.some((*parser).equality)...)
	p.want("]")
	return l
}

// window reads a Win.
func (p *parser) window() api.Node {
	from := p.at
	p.want("{")
	form := 1
	l := []api.Node{p.digits()}
	if p.skip("..") {
		form = 2
		if isNumber(p.look(0)) {
			form = 3
			l = append(l, p.digits())
		}
	}
	p.want("}")
	return p.numbered(api.NdWin, from, form, l...)
}

func (p *parser) call() api.Node {
	from := p.at
	name := p.name().S
	gates := p.gates()
	values := p.list()
	if p.skip("(") {
		values = p.list(p.some((*parser).expr)...)
		p.want(")")
	}
	return p.named(api.NdCall, from, name, gates, values)
}

func (p *parser) guard() api.Node {
	from := p.at
	conds := p.conditions()
	p.want("->")
	behind := p.single()
	return p.node(api.NdGuard, from, conds, behind)
}

func (p *parser) group() api.Node {
	from := p.at
	p.want("(")
	inner := p.behaviour()
	p.want(")")
	return p.placed(inner, from)
}

func (p *parser) wait() api.Node {
	from := p.at
	p.want("wait")
	units := p.take(isNumber).N
	p.want(";")
	behind := p.single()
	return p.numbered(api.NdWait, from, units, behind)
}

func (p *parser) hide() api.Node {
	from := p.at
	p.want("hide")
	gates := p.list(p.names()...)
	p.want("in")
	inner := p.behaviour()
	return p.node(api.NdHide, from, gates, inner)
}

func (p *parser) let() api.Node {
	from := p.at
	p.want("let")
	binds := p.list(p.some((*parser).bind)...)
	p.want("in")
	inner := p.behaviour()
	return p.node(api.NdLet, from, binds, inner)
}

func (p *parser) bind() api.Node {
	from := p.at
	name := p.name().S
	p.want(":")
	sort := p.name()
	p.want("=")
	value := p.expr()
	return p.named(api.NdBind, from, name, sort, value)
}

// choiceOver reads a choice over values or over gates, which the second token behind the word tells apart.
func (p *parser) choiceOver() api.Node {
	from := p.at
	p.want("choice")
	kind := api.NdSome
	var over api.Node
	if isFixed(p.look(1), "in") {
		kind = api.NdPick
		over = p.list(p.some((*parser).pick)...)
	} else {
		over = p.list(p.decls()...)
	}
	p.want("[]")
	inner := p.behaviour()
	return p.node(kind, from, over, inner)
}

func (p *parser) pick() api.Node {
	from := p.at
	name := p.name().S
	p.want("in")
	p.want("[")
	gates := p.list(p.names()...)
	p.want("]")
	return p.named(api.NdGate, from, name, gates)
}

func (p *parser) stop() api.Node {
	from := p.at
	p.want("stop")
	return p.node(api.NdStop, from)
}

func (p *parser) exit() api.Node {
	from := p.at
	p.want("exit")
	var l []api.Node
	if p.skip("(") {
		l = p.some((*parser).given)
		p.want(")")
	}
	return p.node(api.NdExit, from, l...)
}

// given reads what an exit gives: a value, or any one of a sort.
func (p *parser) given() api.Node {
	from := p.at
	if p.skip("any") {
		sort := p.name()
		return p.node(api.NdAny, from, sort)
	}
	value := p.expr()
	return p.node(api.NdGive, from, value)
}
