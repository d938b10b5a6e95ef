package show

import "madrigal/api"

// Levels of behaviours: how tightly they are held together.
const (
	ofEnabling = iota
	ofDisabling
	ofParts
	ofChoice
	ofOne
)

// form is how behaviours of a kind are written. An open one reaches as far to the right as a behaviour goes.
type form struct {
	shape
	level int
	open  bool
	write func(n api.Node, last bool)
}

// behaviours writes behaviours.
type behaviours struct {
	*exprs
	forms map[int]form
}

func newBehaviours(ops []api.Mix) *behaviours {
	w := &behaviours{exprs: newExprs(ops)}
	has := func(elements int) shape { return shape{elements: elements} }
	w.forms = map[int]form{
		api.NdStop:    {has(0), ofOne, false, w.stop},
		api.NdExit:    {has(some), ofOne, false, w.exit},
		api.NdPre:     {has(5), ofOne, false, w.action},
		api.NdChoice:  {has(2), ofChoice, false, w.choice},
		api.NdPar:     {shape{elements: 3, named: true}, ofParts, false, w.parallel},
		api.NdHide:    {has(2), ofOne, true, w.hide},
		api.NdEnable:  {has(3), ofEnabling, false, w.enabling},
		api.NdDisable: {has(2), ofDisabling, false, w.disabling},
		api.NdGuard:   {has(2), ofOne, false, w.guard},
		api.NdLet:     {has(2), ofOne, true, w.let},
		api.NdSome:    {has(2), ofOne, true, w.choiceOfValues},
		api.NdPick:    {has(2), ofOne, true, w.choiceOfGates},
		api.NdCall:    {shape{elements: 2, named: true}, ofOne, false, w.call},
		api.NdWait:    {shape{elements: 1, numbered: true}, ofOne, false, w.wait},
	}
	return w
}

// behaviour writes a behaviour where one of a level stands; last: what follows cannot belong to a behaviour.
func (w *behaviours) behaviour(n api.Node, level int, last bool) {
	f, ok := w.forms[n.Kind]
	if !ok {
		w.refuse()
	}
	w.check(n, n.Kind, f.shape)
	if f.level >= level && (last || !f.open) {
		f.write(n, last)
		return
	}
	w.put("(")
	f.write(n, true)
	w.put(")")
}

func (w *behaviours) enabling(n api.Node, last bool) {
	w.behaviour(n.L[1], ofDisabling, false)
	w.put(">>")
	w.within("accept", w.list(n.L[0]), w.decl, "in")
	w.behaviour(n.L[2], ofEnabling, last)
}

func (w *behaviours) disabling(n api.Node, last bool) {
	w.behaviour(n.L[0], ofParts, false)
	w.put("[>")
	w.behaviour(n.L[1], ofDisabling, last)
}

func (w *behaviours) parallel(n api.Node, last bool) {
	w.behaviour(n.L[1], ofChoice, false)
	gates := w.list(n.L[0])
	switch {
	case n.S == "|[" && len(gates) > 0:
		w.within("|[", gates, w.nameNode, "]|")
	case (n.S == "||" || n.S == "|||") && len(gates) == 0:
		w.put(n.S)
	default:
		w.refuse()
	}
	w.behaviour(n.L[2], ofParts, last)
}

func (w *behaviours) choice(n api.Node, last bool) {
	w.behaviour(n.L[0], ofOne, false)
	w.put("[]")
	w.behaviour(n.L[1], ofChoice, last)
}

func (w *behaviours) stop(api.Node, bool) { w.put("stop") }

func (w *behaviours) exit(n api.Node, last bool) {
	w.put("exit")
	w.within("(", n.L, w.given, ")")
}

// given writes what an exit gives.
func (w *behaviours) given(n api.Node) {
	if n.Kind == api.NdAny {
		w.check(n, api.NdAny, shape{elements: 1})
		w.put("any")
		w.nameNode(n.L[0])
		return
	}
	w.check(n, api.NdGive, shape{elements: 1})
	w.whole(n.L[0])
}

func (w *behaviours) action(n api.Node, last bool) {
	w.gate(n.L[0])
	offers, conds, windows := w.list(n.L[1]), w.list(n.L[2]), w.list(n.L[3])
	// A condition ahead of which no offer stands would be the gates of a call.
	if len(offers) == 0 && len(conds) > 0 || len(windows) > 1 {
		w.refuse()
	}
	for _, x := range offers {
		w.offer(x)
	}
	w.within("[", conds, w.equality, "]")
	for _, x := range windows {
		w.window(x)
	}
	w.put(";")
	w.behaviour(n.L[4], ofOne, last)
}

func (w *behaviours) gate(n api.Node) {
	w.check(n, api.NdName, shape{named: true})
	if n.S == "i" {
		w.put("i")
	} else {
		w.name(n.S)
	}
}

func (w *behaviours) offer(n api.Node) {
	if n.Kind == api.NdTake {
		w.put("?")
		w.typed(n, api.NdTake)
		return
	}
	w.check(n, api.NdGive, shape{elements: 1})
	w.put("!")
	w.whole(n.L[0])
}

func (w *behaviours) window(n api.Node) {
	numbers := 1
	switch n.N {
	case 1, 2:
	case 3:
		numbers = 2
	default:
		w.refuse()
	}
	w.check(n, api.NdWin, shape{elements: numbers, numbered: true})
	w.put("{")
	w.digitsNode(n.L[0])
	if n.N > 1 {
		w.put("..")
	}
	if n.N > 2 {
		w.digitsNode(n.L[1])
	}
	w.put("}")
}

func (w *behaviours) equality(n api.Node) {
	w.check(n, api.NdEq, shape{elements: 2})
	w.whole(n.L[0])
	w.put("=")
	w.whole(n.L[1])
}

func (w *behaviours) call(n api.Node, last bool) {
	w.name(n.S)
	w.within("[", w.list(n.L[0]), w.nameNode, "]")
	w.within("(", w.list(n.L[1]), w.whole, ")")
}

func (w *behaviours) guard(n api.Node, last bool) {
	w.within("[", w.filled(n.L[0]), w.equality, "]")
	w.put("->")
	w.behaviour(n.L[1], ofOne, last)
}

func (w *behaviours) wait(n api.Node, last bool) {
	w.put("wait")
	w.number(n.N)
	w.put(";")
	w.behaviour(n.L[0], ofOne, last)
}

func (w *behaviours) hide(n api.Node, last bool) {
	w.within("hide", w.filled(n.L[0]), w.nameNode, "in")
	w.behaviour(n.L[1], ofEnabling, last)
}

func (w *behaviours) let(n api.Node, last bool) {
	w.within("let", w.filled(n.L[0]), w.bind, "in")
	w.behaviour(n.L[1], ofEnabling, last)
}

func (w *behaviours) bind(n api.Node) {
	w.check(n, api.NdBind, shape{elements: 2, named: true})
	w.name(n.S)
	w.put(":")
	w.nameNode(n.L[0])
	w.put("=")
	w.whole(n.L[1])
}

func (w *behaviours) choiceOfValues(n api.Node, last bool) {
	w.put("choice")
	w.commas(w.filled(n.L[0]), w.decl)
	w.put("[]")
	w.behaviour(n.L[1], ofEnabling, last)
}

func (w *behaviours) choiceOfGates(n api.Node, last bool) {
	w.put("choice")
	w.commas(w.filled(n.L[0]), w.pick)
	w.put("[]")
	w.behaviour(n.L[1], ofEnabling, last)
}

// pick writes a name and the gates that it can be.
func (w *behaviours) pick(n api.Node) {
	w.check(n, api.NdGate, shape{elements: 1, named: true})
	w.name(n.S)
	w.put("in")
	w.within("[", w.filled(n.L[0]), w.nameNode, "]")
}
