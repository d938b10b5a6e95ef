package parse

import "madrigal/api"

func (w *writer) expressions(l []api.Node) {
	w.commas(l, func(n api.Node) { w.expr(n, 0) })
}

// expr writes an expression where one up to a number is read, with brackets only where they are needed. (Where they are not, they can even do harm: in them an argument has a priority with which it can stand ahead of any operation that begins with the part behind it.)
func (w *writer) expr(n api.Node, limit int) {
	o, ok := w.operationOf(n)
	switch {
	case !w.isBare(n, limit):
		w.inBrackets(n)
	case n.Kind == api.NdOf:
		w.qualified(n, limit)
	case ok:
		w.operation(o, n.L, limit)
	default:
		w.piece(n.S)
		w.bracketed("(", ")", n.L, w.expressions)
	}
}

func (w *writer) inBrackets(n api.Node) {
	w.put("(")
	w.expr(n, 0)
	w.put(")")
}

func (w *writer) operationOf(n api.Node) (operation, bool) {
	if n.Kind != api.NdApp {
		return operation{}, false
	}
	o, ok := w.ops[n.S]
	return o, ok
}

// priority returns the one of an expression without brackets around it.
func (w *writer) priority(n api.Node) int {
	if o, ok := w.operationOf(n); ok {
		return o.priority()
	}
	return closed
}

// isBare reports whether an expression can stand without brackets where one up to a number is read, as far as what follows lets it.
func (w *writer) isBare(n api.Node, limit int) bool { return w.priority(n) >= limit }

// qualified writes an NdOf: if its element ends with an argument, "of" would belong to that.
func (w *writer) qualified(n api.Node, limit int) {
	inner := part(n, 0)
	if o, ok := w.operationOf(inner); ok && o.Right {
		w.inBrackets(inner)
	} else {
		w.expr(inner, limit)
	}
	w.put("of")
	w.name(n.S)
}

func (w *writer) operation(o operation, args []api.Node, limit int) {
	next := func() api.Node {
		if len(args) == 0 {
			panic(misshapen{})
		}
		n := args[0]
		args = args[1:]
		return n
	}
	if o.Left {
		w.ahead(o, next(), limit)
	}
	w.piece(o.Parts[0])
	for _, s := range o.Parts[1:] {
		w.expr(next(), 0)
		w.piece(s)
	}
	if o.Right {
		w.expr(next(), o.behind())
	}
}

// ahead writes the argument ahead of an operation.
func (w *writer) ahead(o operation, n api.Node, limit int) {
	if w.isBare(n, limit) && o.follows(w.priority(n)) && !w.takes(n, o) {
		w.expr(n, limit)
	} else {
		w.inBrackets(n)
	}
}

// takes reports whether one of the arguments at the end of an expression would be the argument ahead of an operation that follows.
func (w *writer) takes(n api.Node, following operation) bool {
	for {
		o, ok := w.operationOf(n)
		if !ok || !o.Right || len(n.L) == 0 {
			return false
		}
		n = n.L[len(n.L)-1]
		isRead := following.priority() >= o.behind()
		if !w.isBare(n, o.behind()) {
			return isRead // in brackets, it can stand ahead of everything
		}
		if isRead && following.follows(w.priority(n)) {
			return true
		}
	}
}
