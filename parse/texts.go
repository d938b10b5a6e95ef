package parse

import (
	"slices"
	"strings"

	"madrigal/api"
)

// specification reads a Spec.
func (p *parser) specification() api.Node {
	from := p.at
	p.want("specification")
	name := p.name().S
	gates := p.gates()
	params := p.params()
	p.want(":")
	ends := p.functionality()
	data := p.list(p.many("library", "type")...)
	p.want("behaviour")
	main := p.behaviour()
	where := p.where()
	p.want("endspec")
	return p.named(api.NdSpec, from, name, gates, params, ends, data, main, where)
}

// process reads a Proc.
func (p *parser) process() api.Node {
	from := p.at
	p.want("process")
	name := p.name().S
	gates := p.gates()
	params := p.params()
	p.want(":")
	ends := p.functionality()
	p.want(":=")
	body := p.behaviour()
	where := p.where()
	p.want("endproc")
	return p.named(api.NdProc, from, name, gates, params, ends, body, where)
}

func (p *parser) where() api.Node {
	from := p.at
	var l []api.Node
	if p.skip("where") {
		l = p.many("type", "process")
	}
	return p.node(api.NdList, from, l...)
}

// functionality reads a Func.
func (p *parser) functionality() api.Node {
	from := p.at
	if p.skip("noexit") {
		return p.node(api.NdFunc, from)
	}
	p.want("exit")
	sorts := p.bracketed("(", ")", (*parser).names).L
	return p.numbered(api.NdFunc, from, 1, sorts...)
}

func (p *parser) library() api.Node {
	from := p.at
	p.want("library")
	names := p.names()
	p.want("endlib")
	return p.node(api.NdLib, from, names...)
}

// dataType reads a Type, of whose forms the second token of its inside tells two.
func (p *parser) dataType() api.Node {
	from := p.at
	p.want("type")
	name := p.name().S
	p.want("is")
	kind := api.NdType
	var l []api.Node
	switch behind := p.look(1); {
	case isName(p.look(0)) && isFixed(behind, "renamedby"):
		kind, l = api.NdRename, p.renaming()
	case isName(p.look(0)) && isFixed(behind, "actualizedby"):
		kind, l = api.NdActual, p.actualizing()
	default:
		l = p.sections()
	}
	p.want("endtype")
	return p.named(kind, from, name, l...)
}

func (p *parser) renaming() []api.Node {
	old := p.name()
	p.want("renamedby")
	return append([]api.Node{old}, p.newNames()...)
}

func (p *parser) actualizing() []api.Node {
	old := p.name()
	p.want("actualizedby")
	actual := p.list(p.names()...)
	p.want("using")
	return append([]api.Node{old, actual}, p.newNames()...)
}

// newNames reads the two lists of new names.
func (p *parser) newNames() []api.Node {
	return []api.Node{
		p.section("sortnames", (*parser).tos),
		p.section("opnnames", (*parser).tos),
	}
}

// sections reads a Plain.
func (p *parser) sections() []api.Node {
	uses := p.list()
	if isName(p.look(0)) {
		uses = p.list(p.names()...)
	}
	return []api.Node{
		uses,
		p.section("formalsorts", (*parser).names),
		p.section("formalopns", (*parser).operations),
		p.section("formaleqns", (*parser).equations),
		p.section("sorts", (*parser).names),
		p.section("opns", (*parser).operations),
		p.section("eqns", (*parser).equations),
	}
}

// section reads a list behind a word, an empty one, if the word does not stand here.
func (p *parser) section(word string, inner func(*parser) []api.Node) api.Node {
	if !p.skip(word) {
		return p.list()
	}
	l := inner(p)
	return p.list(l...)
}

func beginsShape(t api.Token) bool { return isPart(t) || isNumber(t) || isFixed(t, "_") }

func (p *parser) tos() []api.Node {
	var l []api.Node
	for beginsShape(p.look(0)) {
		from := p.at
		fresh := p.shape()
		p.want("for")
		old := p.shape()
		l = append(l, p.node(api.NdTo, from, fresh, old))
	}
	return l
}

// shape reads a Shape, as far as one can go.
func (p *parser) shape() api.Node {
	if isNumber(p.look(0)) {
		return p.digits()
	}
	from := p.at
	p.skip("_")
	p.take(isPart)
	for p.skip("_") && isPart(p.look(0)) {
		p.at++
	}
	var shape strings.Builder
	for _, t := range p.tokens[from:p.at] {
		shape.WriteString(t.S)
	}
	return p.named(api.NdName, from, shape.String())
}

func (p *parser) operations() []api.Node {
	var l []api.Node
	for beginsShape(p.look(0)) {
		l = append(l, p.operation()...)
	}
	return l
}

// operation reads an Op.
func (p *parser) operation() []api.Node {
	l := p.some((*parser).operationName)
	p.want(":")
	args := p.list()
	if isName(p.look(0)) {
		args = p.list(p.names()...)
	}
	p.want("->")
	sort := p.name()
	for i := range l {
		l[i].L = []api.Node{args, sort}
	}
	return l
}

// operationName reads a Shape with its brackets.
func (p *parser) operationName() api.Node {
	from := p.at
	n := p.shape()
	prio, side := api.MaxPrio, api.SideNone
	if strings.Contains(n.S, "_") && p.skip("(") {
		prio = p.take(isPriority).N
		if isName(p.look(0)) {
			side = sideOf(p.take(isSide).S)
		}
		p.want(")")
	}
	n.Kind = api.NdOp
	n.N = 4*prio + side
	return p.placed(n, from)
}

func isPriority(t api.Token) bool { return isNumber(t) && 1 <= t.N && t.N <= api.MaxPrio }

func isSide(t api.Token) bool { return isName(t) && sideOf(t.S) != api.SideNone }

func sideOf(name string) int {
	switch name {
	case "left":
		return api.SideLeft
	case "right":
		return api.SideRight
	}
	return api.SideNone
}

// equations reads a list of Eqns.
func (p *parser) equations() []api.Node {
	var l []api.Node
	for slices.ContainsFunc([]string{"forall", "ofsort"}, p.sees) {
		l = append(l, p.equationsOfSort())
	}
	return l
}

func (p *parser) equationsOfSort() api.Node {
	from := p.at
	vars := p.list()
	if p.skip("forall") {
		vars = p.list(p.decls()...)
	}
	p.want("ofsort")
	sort := p.name().S
	var l []api.Node
	for beginsExpr(p.look(0)) {
		l = append(l, p.equation())
		p.want(";")
	}
	eqns := p.list(l...)
	return p.named(api.NdEqns, from, sort, vars, eqns)
}

// equation reads an Eqn: its first Eq is a condition, if another one or => follows.
func (p *parser) equation() api.Node {
	from := p.at
	conds := p.list()
	last := p.equality()
	if p.sees(",") || p.sees("=>") {
		l := []api.Node{last}
		for p.skip(",") {
			l = append(l, p.equality())
		}
		p.want("=>")
		conds = p.list(l...)
		last = p.equality()
	}
	return p.node(api.NdEqn, from, conds, last)
}
