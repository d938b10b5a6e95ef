package show

import "madrigal/api"

// exprs writes expressions by operations, which are found by their names, and those with an argument ahead of them by their first parts. What was written is lost if no text at all is read as it.
type exprs struct {
	*words
	ops, following map[string]operation
	opening        map[string]bool
	lost           bool
}

func newExprs(ops []api.Mix) *exprs {
	w := &exprs{
		words:     &words{kinds: map[string]int{}},
		ops:       map[string]operation{},
		following: map[string]operation{},
		opening:   openings(ops),
	}
	for _, m := range ops {
		o := newOperation(m)
		w.ops[o.name] = o
		if o.Left {
			w.following[o.Parts[0]] = o
		}
	}
	return w
}

// whole writes an expression that stands for itself.
func (w *exprs) whole(n api.Node) { w.expr(n, 0) }

// expr writes an expression where one up to a number is read. Brackets that are not needed could do harm: what stands in them can be the argument ahead of any operation.
func (w *exprs) expr(n api.Node, limit int) {
	o, ok := w.operationOf(n)
	switch {
	case ok && o.priority() < limit:
		w.inBrackets(n)
	case ok:
		w.operation(o, n.L, limit)
	case n.Kind == api.NdOf:
		w.qualified(n, limit)
	default:
		w.application(n)
	}
}

func (w *exprs) inBrackets(n api.Node) {
	w.put("(")
	w.whole(n)
	w.put(")")
}

// operationOf returns the operation by which a tree is made.
func (w *exprs) operationOf(n api.Node) (operation, bool) {
	if n.Kind != api.NdApp {
		return operation{}, false
	}
	o, ok := w.ops[n.S]
	if ok {
		w.check(n, api.NdApp, shape{elements: o.args, named: true})
	}
	return o, ok
}

// application writes a number, or a part with the arguments that it has.
func (w *exprs) application(n api.Node) {
	w.check(n, api.NdApp, shape{elements: some, named: true})
	kind := w.kind(n.S)
	switch {
	case kind == api.TkNum && len(n.L) == 0:
		w.digits(n.S)
	case (kind == api.TkName || kind == api.TkSym) && !w.opening[n.S]:
		w.take(kind, n.S)
		w.within("(", n.L, w.whole, ")")
	default:
		w.refuse()
	}
}

// qualified writes an NdOf: an argument at the end of its element would take the "of".
func (w *exprs) qualified(n api.Node, limit int) {
	w.check(n, api.NdOf, shape{elements: 1, named: true})
	if o, ok := w.operationOf(n.L[0]); ok && o.Right {
		w.inBrackets(n.L[0])
	} else {
		w.expr(n.L[0], limit)
	}
	w.put("of")
	w.name(n.S)
}

func (w *exprs) operation(o operation, args []api.Node, limit int) {
	if o.Left {
		w.ahead(o, args[0], limit)
		args = args[1:]
	}
	w.part(o.Parts[0])
	for i, s := range o.Parts[1:] {
		w.between(args[i], s)
	}
	if o.Right {
		w.expr(args[len(args)-1], o.behind())
	}
}

func (w *exprs) part(s string) { w.take(w.kind(s), s) }

// between writes an argument and the part behind it. If the part begins an operation, too, to which the argument belongs where it is read, brackets are of no use: what stands in them belongs to it all the more.
func (w *exprs) between(n api.Node, part string) {
	o, ok := w.following[part]
	if ok && (o.follows(w.priority(n)) || w.takes(n, o)) {
		w.lost = true
	}
	w.whole(n)
	w.part(part)
}

// ahead writes the argument ahead of an operation. One without brackets has a priority for which it can stand there bare.
func (w *exprs) ahead(o operation, n api.Node, limit int) {
	if o.follows(w.priority(n)) && !w.takes(n, o) {
		w.expr(n, limit)
	} else {
		w.inBrackets(n)
	}
}

func (w *exprs) priority(n api.Node) int {
	if o, ok := w.operationOf(n); ok {
		return o.priority()
	}
	return closed
}

// takes reports whether one of the arguments at the end of an expression would become the argument ahead of an operation that follows.
func (w *exprs) takes(n api.Node, following operation) bool {
	for {
		o, ok := w.operationOf(n)
		if !ok || !o.Right {
			return false
		}
		n = n.L[len(n.L)-1]
		limit, prio := o.behind(), w.priority(n)
		inBrackets := prio < limit
		if inBrackets {
			prio = closed
		}
		if limit <= following.Prio && following.follows(prio) {
			return true
		}
		if inBrackets {
			return false
		}
	}
}
