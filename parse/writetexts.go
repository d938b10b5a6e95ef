package parse

import (
	"strings"

	"madrigal/api"
)

func (w *writer) specification(n api.Node) {
	w.put("specification")
	w.head(n)
	w.units(part(n, 3).L)
	w.put("behaviour")
	w.behaviour(part(n, 4), 0, true)
	w.where(part(n, 5).L)
	w.put("endspec")
}

func (w *writer) process(n api.Node) {
	w.put("process")
	w.head(n)
	w.put(":=")
	w.behaviour(part(n, 3), 0, true)
	w.where(part(n, 4).L)
	w.put("endproc")
}

// head writes what specifications and processes begin with.
func (w *writer) head(n api.Node) {
	w.name(n.S)
	w.bracketed("[", "]", part(n, 0).L, w.names)
	w.bracketed("(", ")", part(n, 1).L, w.decls)
	w.put(":")
	ends := part(n, 2)
	if ends.N == 0 {
		w.put("noexit")
		return
	}
	w.put("exit")
	w.bracketed("(", ")", ends.L, w.names)
}

func (w *writer) where(l []api.Node) {
	if len(l) > 0 {
		w.put("where")
		w.units(l)
	}
}

func (w *writer) units(l []api.Node) {
	for _, n := range l {
		switch n.Kind {
		case api.NdLib:
			w.put("library")
			w.names(n.L)
			w.put("endlib")
		case api.NdProc:
			w.process(n)
		default:
			w.dataType(n)
		}
	}
}

func (w *writer) dataType(n api.Node) {
	w.put("type")
	w.name(n.S)
	w.put("is")
	switch n.Kind {
	case api.NdRename:
		w.name(part(n, 0).S)
		w.put("renamedby")
		w.newNames(part(n, 1).L, part(n, 2).L)
	case api.NdActual:
		w.name(part(n, 0).S)
		w.put("actualizedby")
		w.names(part(n, 1).L)
		w.put("using")
		w.newNames(part(n, 2).L, part(n, 3).L)
	default:
		w.sections(n)
	}
	w.put("endtype")
}

func (w *writer) newNames(sorts, ops []api.Node) {
	w.section("sortnames", sorts, w.tos)
	w.section("opnnames", ops, w.tos)
}

func (w *writer) section(word string, l []api.Node, inner func([]api.Node)) {
	if len(l) > 0 {
		w.put(word)
		inner(l)
	}
}

func (w *writer) sections(n api.Node) {
	w.names(part(n, 0).L)
	w.section("formalsorts", part(n, 1).L, w.names)
	w.section("formalopns", part(n, 2).L, w.operations)
	w.section("formaleqns", part(n, 3).L, w.equations)
	w.section("sorts", part(n, 4).L, w.names)
	w.section("opns", part(n, 5).L, w.operations)
	w.section("eqns", part(n, 6).L, w.equations)
}

func (w *writer) tos(l []api.Node) {
	for _, n := range l {
		w.shape(part(n, 0).S)
		w.put("for")
		w.shape(part(n, 1).S)
	}
}

func (w *writer) shape(s string) {
	for i, piece := range strings.Split(s, mark) {
		if i > 0 {
			w.put(mark)
		}
		if piece != "" {
			w.piece(piece)
		}
	}
}

// operations writes names of operations that follow each other and share their sorts ahead of these.
func (w *writer) operations(l []api.Node) {
	for i, n := range l {
		w.operationName(n)
		if i+1 < len(l) && sameSorts(n, l[i+1]) {
			w.put(",")
			continue
		}
		w.put(":")
		w.names(part(n, 0).L)
		w.put("->")
		w.name(part(n, 1).S)
	}
}

func sameSorts(a, b api.Node) bool {
	return Same(part(a, 0), part(b, 0)) && Same(part(a, 1), part(b, 1))
}

func (w *writer) operationName(n api.Node) {
	w.shape(n.S)
	prio, side := n.N/4, n.N%4
	if !strings.Contains(n.S, mark) || prio == api.MaxPrio && side == api.SideNone {
		return
	}
	w.put("(")
	w.number(prio)
	switch side {
	case api.SideLeft:
		w.name("left")
	case api.SideRight:
		w.name("right")
	}
	w.put(")")
}

func (w *writer) equations(l []api.Node) {
	for _, n := range l {
		w.section("forall", part(n, 0).L, w.decls)
		w.put("ofsort")
		w.name(n.S)
		for _, x := range part(n, 1).L {
			w.conditions(part(x, 0).L)
			w.equality(part(x, 1))
			w.put(";")
		}
	}
}

func (w *writer) conditions(l []api.Node) {
	if len(l) > 0 {
		w.equalities(l)
		w.put("=>")
	}
}
