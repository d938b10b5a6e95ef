package parse

import "madrigal/api"

// levelOf returns how tightly a behaviour is held together: one with a lesser level needs brackets.
func levelOf(n api.Node) int {
	switch n.Kind {
	case api.NdEnable:
		return 0
	case api.NdDisable:
		return 1
	case api.NdPar:
		return 2
	case api.NdChoice:
		return 3
	}
	return 4
}

// isOpen reports whether a behaviour reaches as far to the right as one goes.
func isOpen(n api.Node) bool {
	switch n.Kind {
	case api.NdHide, api.NdLet, api.NdSome, api.NdPick:
		return true
	}
	return false
}

// behaviour writes a behaviour where one of a level stands; last: nothing follows that an open one would take.
func (w *writer) behaviour(n api.Node, level int, last bool) {
	if levelOf(n) < level || isOpen(n) && !last {
		w.put("(")
		w.behaviour(n, 0, true)
		w.put(")")
		return
	}
	write, ok := w.behaviours[n.Kind]
	if !ok {
		panic(misshapen{})
	}
	write(w, n, last)
}

func (w *writer) enabling(n api.Node, last bool) {
	w.behaviour(part(n, 1), 1, false)
	w.put(">>")
	w.bracketed("accept", "in", part(n, 0).L, w.decls)
	w.behaviour(part(n, 2), 0, last)
}

func (w *writer) disabling(n api.Node, last bool) {
	w.behaviour(part(n, 0), 2, false)
	w.put("[>")
	w.behaviour(part(n, 1), 1, last)
}

func (w *writer) parallel(n api.Node, last bool) {
	w.behaviour(part(n, 1), 3, false)
	w.put(n.S)
	if n.S == "|[" {
		w.names(part(n, 0).L)
		w.put("]|")
	}
	w.behaviour(part(n, 2), 2, last)
}

func (w *writer) choice(n api.Node, last bool) {
	w.behaviour(part(n, 0), 4, false)
	w.put("[]")
	w.behaviour(part(n, 1), 3, last)
}

func (w *writer) stop(api.Node, bool) { w.put("stop") }

func (w *writer) exit(n api.Node, last bool) {
	w.put("exit")
	w.bracketed("(", ")", n.L, func(l []api.Node) { w.commas(l, w.given) })
}

func (w *writer) given(n api.Node) {
	if n.Kind == api.NdAny {
		w.put("any")
		w.name(part(n, 0).S)
		return
	}
	w.expr(part(n, 0), 0)
}

func (w *writer) action(n api.Node, last bool) {
	if gate := part(n, 0).S; gate == "i" {
		w.put(gate)
	} else {
		w.name(gate)
	}
	w.offers(part(n, 1).L)
	w.bracketed("[", "]", part(n, 2).L, w.equalities)
	for _, x := range part(n, 3).L {
		w.window(x)
	}
	w.put(";")
	w.behaviour(part(n, 4), 4, last)
}

// offers writes variables that follow each other and share a sort behind one sign.
func (w *writer) offers(l []api.Node) {
	for from := 0; from < len(l); {
		if l[from].Kind != api.NdTake {
			w.put("!")
			w.expr(part(l[from], 0), 0)
			from++
			continue
		}
		end := from + 1
		for end < len(l) && l[end].Kind == api.NdTake && part(l[end], 0).S == part(l[from], 0).S {
			end++
		}
		w.put("?")
		w.decls(l[from:end])
		from = end
	}
}

func (w *writer) window(n api.Node) {
	w.put("{")
	w.digits(part(n, 0).S)
	if n.N > 1 {
		w.put("..")
	}
	if n.N > 2 {
		w.digits(part(n, 1).S)
	}
	w.put("}")
}

func (w *writer) call(n api.Node, last bool) {
	w.name(n.S)
	w.bracketed("[", "]", part(n, 0).L, w.names)
	w.bracketed("(", ")", part(n, 1).L, w.expressions)
}

func (w *writer) guard(n api.Node, last bool) {
	w.put("[")
	w.equalities(part(n, 0).L)
	w.put("]", "->")
	w.behaviour(part(n, 1), 4, last)
}

func (w *writer) wait(n api.Node, last bool) {
	w.put("wait")
	w.number(n.N)
	w.put(";")
	w.behaviour(part(n, 0), 4, last)
}

func (w *writer) hide(n api.Node, last bool) {
	w.put("hide")
	w.names(part(n, 0).L)
	w.put("in")
	w.behaviour(part(n, 1), 0, last)
}

func (w *writer) let(n api.Node, last bool) {
	w.put("let")
	w.commas(part(n, 0).L, w.bind)
	w.put("in")
	w.behaviour(part(n, 1), 0, last)
}

func (w *writer) bind(n api.Node) {
	w.name(n.S)
	w.put(":")
	w.name(part(n, 0).S)
	w.put("=")
	w.expr(part(n, 1), 0)
}

func (w *writer) choiceOver(n api.Node, last bool) {
	w.put("choice")
	if n.Kind == api.NdPick {
		w.commas(part(n, 0).L, w.pick)
	} else {
		w.decls(part(n, 0).L)
	}
	w.put("[]")
	w.behaviour(part(n, 1), 0, last)
}

func (w *writer) pick(n api.Node) {
	w.name(n.S)
	w.put("in", "[")
	w.names(part(n, 0).L)
	w.put("]")
}
