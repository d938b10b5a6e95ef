package show

import (
	"strings"

	"madrigal/api"
	"madrigal/lex"
)

// texts writes whole texts, of trees that are right.
type texts struct {
	*behaviours
	units map[int]func(api.Node)
}

func newTexts(ops []api.Mix) *texts {
	w := &texts{behaviours: newBehaviours(ops)}
	w.units = map[int]func(api.Node){
		api.NdLib:    w.library,
		api.NdType:   w.plainType,
		api.NdRename: w.renamedType,
		api.NdActual: w.actualType,
		api.NdProc:   w.process,
	}
	return w
}

func (w *texts) specification(n api.Node) {
	w.put("specification")
	w.head(n)
	w.each(n.L[3].L)
	w.put("behaviour")
	w.body(n.L[4], n.L[5])
	w.put("endspec")
}

func (w *texts) process(n api.Node) {
	w.put("process")
	w.head(n)
	w.put(":=")
	w.body(n.L[3], n.L[4])
	w.put("endproc")
}

// head writes what specifications and processes have ahead of their behaviours.
func (w *texts) head(n api.Node) {
	w.name(n.S)
	w.within("[", n.L[0].L, w.nameNode, "]")
	w.within("(", n.L[1].L, w.decl, ")")
	w.put(":")
	if n.L[2].N == 0 {
		w.put("noexit")
		return
	}
	w.put("exit")
	w.within("(", n.L[2].L, w.nameNode, ")")
}

func (w *texts) body(main, where api.Node) {
	w.behaviour(main, ofEnabling, true)
	if len(where.L) > 0 {
		w.put("where")
		w.each(where.L)
	}
}

// each writes types, libraries and processes.
func (w *texts) each(l []api.Node) {
	for _, n := range l {
		w.units[n.Kind](n)
	}
}

func (w *texts) library(n api.Node) { w.within("library", n.L, w.nameNode, "endlib") }

// dataType writes what all types have around them.
func (w *texts) dataType(n api.Node, inner func()) {
	w.put("type")
	w.name(n.S)
	w.put("is")
	inner()
	w.put("endtype")
}

func (w *texts) plainType(n api.Node) {
	w.dataType(n, func() {
		w.names(n.L[0].L)
		w.section("formalsorts", n.L[1], w.names)
		w.section("formalopns", n.L[2], w.operations)
		w.section("formaleqns", n.L[3], w.equations)
		w.section("sorts", n.L[4], w.names)
		w.section("opns", n.L[5], w.operations)
		w.section("eqns", n.L[6], w.equations)
	})
}

func (w *texts) renamedType(n api.Node) {
	w.dataType(n, func() {
		w.nameNode(n.L[0])
		w.put("renamedby")
		w.newNames(n.L[1], n.L[2])
	})
}

func (w *texts) actualType(n api.Node) {
	w.dataType(n, func() {
		w.nameNode(n.L[0])
		w.put("actualizedby")
		w.names(n.L[1].L)
		w.put("using")
		w.newNames(n.L[2], n.L[3])
	})
}

func (w *texts) newNames(sorts, ops api.Node) {
	w.section("sortnames", sorts, w.changes)
	w.section("opnnames", ops, w.changes)
}

// section writes a list behind a word, and nothing if it is empty.
func (w *texts) section(word string, n api.Node, inner func([]api.Node)) {
	if len(n.L) > 0 {
		w.put(word)
		inner(n.L)
	}
}

// changes writes new names for old ones.
func (w *texts) changes(l []api.Node) {
	for _, n := range l {
		w.shaped(n.L[0].S)
		w.put("for")
		w.shaped(n.L[1].S)
	}
}

// shaped writes the name of an operation as the tokens that it is made of.
func (w *texts) shaped(s string) {
	l, _, _ := lex.Tokens(s)
	w.tokens = append(w.tokens, l...)
}

func (w *texts) operations(l []api.Node) {
	for _, n := range l {
		w.shaped(n.S)
		w.precedence(n)
		w.put(":")
		w.names(n.L[0].L)
		w.put("->")
		w.nameNode(n.L[1])
	}
}

// precedence writes the priority and the side of an operation, unless they are those that it has without brackets.
func (w *texts) precedence(n api.Node) {
	prio, side := n.N/4, n.N%4
	if !strings.Contains(n.S, mark) || prio == api.MaxPrio && side == api.SideNone {
		return
	}
	w.put("(")
	w.number(prio)
	switch side {
	case api.SideLeft:
		w.name("left")
	case api.SideRight:
		w.name("right")
	}
	w.put(")")
}

func (w *texts) equations(l []api.Node) {
	for _, n := range l {
		if len(n.L[0].L) > 0 {
			w.put("forall")
			w.commas(n.L[0].L, w.decl)
		}
		w.put("ofsort")
		w.name(n.S)
		for _, x := range n.L[1].L {
			w.equation(x)
		}
	}
}

func (w *texts) equation(n api.Node) {
	if len(n.L[0].L) > 0 {
		w.commas(n.L[0].L, w.equality)
		w.put("=>")
	}
	w.equality(n.L[1])
	w.put(";")
}
