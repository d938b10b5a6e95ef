package parse_test

import (
	"math/rand"
	"strconv"
	"strings"
	"testing"

	"madrigal/api"
	"madrigal/parse"
)

// maker makes texts together with the trees that they have to be read as, with places. While it does, At and End count tokens.
type maker struct {
	r      *rand.Rand
	text   strings.Builder
	starts []int
	ends   []int
	ops    []api.Mix
}

func newMaker(r *rand.Rand, ops []api.Mix) *maker { return &maker{r: r, ops: ops} }

// put writes tokens, with something between them.
func (m *maker) put(l ...string) {
	for _, s := range l {
		m.text.WriteString([]string{" ", " ", " ", "\n", "  ", "(**) ", " (* [> *)\t"}[m.r.Intn(7)])
		m.starts = append(m.starts, m.text.Len())
		m.text.WriteString(s)
		m.ends = append(m.ends, m.text.Len())
	}
}

func (m *maker) at() int { return len(m.starts) }

// from gives a node the tokens from one on.
func (m *maker) from(at int, n api.Node) api.Node {
	n.At, n.End = at, m.at()
	return n
}

// list makes a list of nodes that has the tokens of these alone.
func (m *maker) list(l ...api.Node) api.Node {
	n := m.from(m.at(), list(l...))
	if len(l) > 0 {
		n.At, n.End = l[0].At, l[len(l)-1].End
	}
	return n
}

// inBytes returns a tree whose places count bytes.
func (m *maker) inBytes(n api.Node) api.Node {
	at, end := m.text.Len(), 0
	if n.At < len(m.starts) {
		at = m.starts[n.At]
	}
	if end = at; n.End > n.At {
		end = m.ends[n.End-1]
	}
	n.At, n.End = at, end
	l := make([]api.Node, len(n.L))
	for i := range n.L {
		l[i] = m.inBytes(n.L[i])
	}
	n.L = l
	return n
}

func (m *maker) some() int { return 1 + m.r.Intn(3) }

func (m *maker) chance() bool { return m.r.Intn(2) == 0 }

func (m *maker) word() string {
	return []string{"a", "b", "x1", "P", "left", "right", "then", "x''"}[m.r.Intn(8)]
}

func (m *maker) name() api.Node {
	at, s := m.at(), m.word()
	m.put(s)
	return m.from(at, name(s))
}

func (m *maker) names() []api.Node {
	l := []api.Node{m.name()}
	for m.chance() {
		m.put(",")
		l = append(l, m.name())
	}
	return l
}

// shared makes names with one sort.
func (m *maker) shared(kind int) []api.Node {
	l := m.names()
	m.put(":")
	sort := m.name()
	for i := range l {
		l[i].Kind = kind
		l[i].L = []api.Node{sort}
	}
	return l
}

func (m *maker) decls() []api.Node {
	l := m.shared(api.NdDecl)
	for m.chance() {
		m.put(",")
		l = append(l, m.shared(api.NdDecl)...)
	}
	return l
}

// digits writes a number, with zeros ahead at times.
func (m *maker) digits() (string, int) {
	n := m.r.Intn(30)
	s := strconv.Itoa(n)
	m.put(strings.Repeat("0", max(0, m.r.Intn(6)-3)) + s)
	return s, n
}

// isOperation reports whether a tree is one of an operation that is written around its arguments.
func isOperation(n api.Node) bool { return n.Kind == api.NdApp && strings.Contains(n.S, "_") }

// argument makes an argument of an operation: in brackets, if it is one of an operation, too.
func (m *maker) argument(deep int) api.Node {
	at := m.at()
	if m.chance() {
		m.put("(")
		n := m.expr(deep)
		m.put(")")
		return m.from(at, n)
	}
	return m.simple(deep)
}

// simple makes an expression that needs no brackets anywhere.
func (m *maker) simple(deep int) api.Node {
	at := m.at()
	switch k := m.r.Intn(8); {
	case k == 0:
		s, _ := m.digits()
		return m.from(at, app(s))
	case k == 1 && deep > 0:
		m.put("(")
		n := m.expr(deep - 1)
		m.put(")")
		for m.chance() {
			m.put("of")
			s := m.word()
			m.put(s)
			n = m.from(at, of(s, m.from(at, n)))
			n.L[0].End = m.at() - 2
		}
		return m.from(at, n)
	case k < 4 && deep > 0:
		s := m.symbol()
		m.put(s, "(")
		l := []api.Node{m.expr(deep - 1)}
		for m.chance() {
			m.put(",")
			l = append(l, m.expr(deep-1))
		}
		m.put(")")
		return m.from(at, app(s, l...))
	}
	s := m.symbol()
	m.put(s)
	return m.from(at, app(s))
}

// symbol returns a part that begins no operation without an argument ahead of it.
func (m *maker) symbol() string {
	return []string{"a", "f", "+", "<", "then", "==", "x'", "left"}[m.r.Intn(8)]
}

func (m *maker) expr(deep int) api.Node {
	at := m.at()
	if deep == 0 || len(m.ops) == 0 || m.chance() {
		return m.simple(deep)
	}
	o := m.ops[m.r.Intn(len(m.ops))]
	n := api.Node{Kind: api.NdApp}
	if o.Left {
		n.S, n.L = "_", []api.Node{m.argument(deep - 1)}
	}
	for i, s := range o.Parts {
		m.put(s)
		n.S += s
		if i+1 < len(o.Parts) || o.Right {
			n.S += "_"
			n.L = append(n.L, m.argument(deep-1))
		}
	}
	return m.from(at, n)
}

func (m *maker) eq() api.Node {
	at := m.at()
	a := m.expr(2)
	m.put("=")
	b := m.expr(2)
	return m.from(at, eq(a, b))
}

func (m *maker) eqs() api.Node {
	l := []api.Node{m.eq()}
	for m.chance() {
		m.put(",")
		l = append(l, m.eq())
	}
	return m.list(l...)
}

// behaviour makes a behaviour; what needs brackets anywhere has some.
func (m *maker) behaviour(deep int) api.Node {
	at := m.at()
	if deep == 0 {
		return m.single(0)
	}
	first := func() api.Node { return m.single(deep - 1) }
	switch m.r.Intn(6) {
	case 0:
		a := first()
		m.put("[]")
		return m.from(at, node(api.NdChoice, a, m.behaviourWithin(deep-1)))
	case 1:
		a := first()
		m.put("[>")
		return m.from(at, node(api.NdDisable, a, m.behaviourWithin(deep-1)))
	case 2:
		a := first()
		sign := []string{"||", "|||"}[m.r.Intn(2)]
		m.put(sign)
		gates := m.list()
		if m.chance() {
			return m.from(at, named(api.NdPar, sign, gates, a, m.behaviourWithin(deep-1)))
		}
		return m.from(at, named(api.NdPar, sign, gates, a, m.single(deep-1)))
	case 3:
		a := first()
		m.put("|[")
		gates := m.list(m.names()...)
		m.put("]|")
		return m.from(at, named(api.NdPar, "|[", gates, a, m.behaviourWithin(deep-1)))
	case 4:
		a := first()
		m.put(">>")
		vars := m.list()
		if m.chance() {
			m.put("accept")
			vars = m.list(m.decls()...)
			m.put("in")
		}
		return m.from(at, node(api.NdEnable, vars, a, m.behaviour(deep-1)))
	}
	return m.single(deep)
}

// behaviourWithin makes a behaviour in brackets, or one that reaches as far as it can.
func (m *maker) behaviourWithin(deep int) api.Node {
	if m.chance() {
		return m.open(deep)
	}
	return m.grouped(deep)
}

func (m *maker) grouped(deep int) api.Node {
	at := m.at()
	m.put("(")
	n := m.behaviour(deep)
	m.put(")")
	return m.from(at, n)
}

// open makes a behaviour that reaches as far to the right as one goes.
func (m *maker) open(deep int) api.Node {
	at := m.at()
	switch m.r.Intn(4) {
	case 0:
		m.put("hide")
		l := m.list(m.names()...)
		m.put("in")
		return m.from(at, node(api.NdHide, l, m.behaviour(deep)))
	case 1:
		m.put("let")
		l := []api.Node{m.bind()}
		for m.chance() {
			m.put(",")
			l = append(l, m.bind())
		}
		all := m.list(l...)
		m.put("in")
		return m.from(at, node(api.NdLet, all, m.behaviour(deep)))
	case 2:
		m.put("choice")
		l := m.list(m.decls()...)
		m.put("[]")
		return m.from(at, node(api.NdSome, l, m.behaviour(deep)))
	}
	m.put("choice")
	l := []api.Node{m.pick()}
	for m.chance() {
		m.put(",")
		l = append(l, m.pick())
	}
	all := m.list(l...)
	m.put("[]")
	return m.from(at, node(api.NdPick, all, m.behaviour(deep)))
}

func (m *maker) bind() api.Node {
	at, s := m.at(), m.word()
	m.put(s, ":")
	sort := m.name()
	m.put("=")
	return m.from(at, named(api.NdBind, s, sort, m.expr(2)))
}

func (m *maker) pick() api.Node {
	at, s := m.at(), m.word()
	m.put(s, "in", "[")
	gates := m.list(m.names()...)
	m.put("]")
	return m.from(at, named(api.NdGate, s, gates))
}

// single makes a behaviour that needs no brackets, unless something follows that an open one would take.
func (m *maker) single(deep int) api.Node {
	at := m.at()
	k := m.r.Intn(9)
	if deep == 0 {
		k = m.r.Intn(3)
	}
	switch k {
	case 0:
		m.put("stop")
		return m.from(at, stop())
	case 1:
		return m.exit()
	case 2:
		return m.call()
	case 3:
		m.put("wait")
		_, n := m.digits()
		m.put(";")
		return m.from(at, numbered(api.NdWait, n, m.single(deep-1)))
	case 4:
		m.put("[")
		l := m.eqs()
		m.put("]", "->")
		return m.from(at, node(api.NdGuard, l, m.single(deep-1)))
	case 5:
		return m.grouped(deep - 1)
	}
	return m.action(deep)
}

func (m *maker) exit() api.Node {
	at := m.at()
	m.put("exit")
	var l []api.Node
	if m.chance() {
		m.put("(")
		for i := range m.some() {
			if i > 0 {
				m.put(",")
			}
			from := m.at()
			if m.chance() {
				m.put("any")
				l = append(l, m.from(from, node(api.NdAny, m.name())))
			} else {
				l = append(l, m.from(from, node(api.NdGive, m.expr(2))))
			}
		}
		m.put(")")
	}
	return m.from(at, node(api.NdExit, l...))
}

func (m *maker) optionalList(open, end string, inner func() []api.Node) api.Node {
	at := m.at()
	var l []api.Node
	if m.chance() {
		m.put(open)
		l = inner()
		m.put(end)
	}
	return m.from(at, list(l...))
}

func (m *maker) call() api.Node {
	at, s := m.at(), m.word()
	m.put(s)
	gates := m.optionalList("[", "]", m.names)
	values := m.list()
	if m.chance() {
		m.put("(")
		l := []api.Node{m.expr(2)}
		for m.chance() {
			m.put(",")
			l = append(l, m.expr(2))
		}
		m.put(")")
		values = list(l...)
		values.At, values.End = l[0].At, l[len(l)-1].End
	}
	return m.from(at, named(api.NdCall, s, gates, values))
}

func (m *maker) action(deep int) api.Node {
	at, s := m.at(), m.word()
	if m.r.Intn(4) == 0 {
		s = "i"
	}
	m.put(s)
	gate := m.from(at, name(s))
	var l []api.Node
	for m.chance() {
		from := m.at()
		if m.chance() {
			m.put("!")
			l = append(l, m.from(from, node(api.NdGive, m.expr(2))))
		} else {
			m.put("?")
			l = append(l, m.shared(api.NdTake)...)
		}
	}
	offers := m.list(l...)
	conds := m.list()
	if len(l) > 0 && m.chance() {
		m.put("[")
		conds = m.eqs()
		m.put("]")
	}
	windows := m.list()
	if m.chance() {
		windows = m.list(m.window())
	}
	m.put(";")
	return m.from(at, node(api.NdPre, gate, offers, conds, windows, m.single(deep-1)))
}

func (m *maker) window() api.Node {
	at := m.at()
	number := func() api.Node {
		from := m.at()
		s, _ := m.digits()
		return m.from(from, name(s))
	}
	m.put("{")
	l := []api.Node{number()}
	form := 1 + m.r.Intn(3)
	if form > 1 {
		m.put("..")
	}
	if form > 2 {
		l = append(l, number())
	}
	m.put("}")
	return m.from(at, numbered(api.NdWin, form, l...))
}

func (m *maker) function() api.Node {
	at := m.at()
	if m.chance() {
		m.put("noexit")
		return m.from(at, node(api.NdFunc))
	}
	m.put("exit")
	sorts := m.optionalList("(", ")", m.names)
	return m.from(at, numbered(api.NdFunc, 1, sorts.L...))
}

// specification makes a specification, which declares the operations by which it is made.
func (m *maker) specification() api.Node {
	at, s := m.at(), m.word()
	m.put("specification", s)
	gates := m.optionalList("[", "]", m.names)
	params := m.optionalList("(", ")", m.decls)
	m.put(":")
	ends := m.function()
	var units []api.Node
	for m.chance() {
		if m.chance() {
			from := m.at()
			m.put("library")
			l := m.names()
			m.put("endlib")
			units = append(units, m.from(from, node(api.NdLib, l...)))
		} else {
			units = append(units, m.dataType(m.chance()))
		}
	}
	units = append(units, m.dataType(true))
	data := m.list(units...)
	m.put("behaviour")
	main := m.behaviour(3)
	where := m.where(2)
	m.put("endspec")
	return m.from(at, named(api.NdSpec, s, gates, params, ends, data, main, where))
}

func (m *maker) where(deep int) api.Node {
	at := m.at()
	var l []api.Node
	if deep > 0 && m.chance() {
		m.put("where")
		for m.chance() {
			if m.chance() {
				l = append(l, m.process(deep-1))
			} else {
				l = append(l, m.dataType(false))
			}
		}
	}
	return m.from(at, list(l...))
}

func (m *maker) process(deep int) api.Node {
	at, s := m.at(), m.word()
	m.put("process", s)
	gates := m.optionalList("[", "]", m.names)
	params := m.optionalList("(", ")", m.decls)
	m.put(":")
	ends := m.function()
	m.put(":=")
	body := m.behaviour(2)
	where := m.where(deep)
	m.put("endproc")
	return m.from(at, named(api.NdProc, s, gates, params, ends, body, where))
}

// dataType makes a type; one that is whole declares all operations.
func (m *maker) dataType(whole bool) api.Node {
	at, s := m.at(), m.word()
	m.put("type", s, "is")
	kind := api.NdType
	var l []api.Node
	switch k := m.r.Intn(4); {
	case k == 0 && !whole:
		kind = api.NdRename
		l = []api.Node{m.name()}
		m.put("renamedby")
		l = append(l, m.section("sortnames", m.tos), m.section("opnnames", m.tos))
	case k == 1 && !whole:
		kind = api.NdActual
		l = []api.Node{m.name()}
		m.put("actualizedby")
		l = append(l, m.list(m.names()...))
		m.put("using")
		l = append(l, m.section("sortnames", m.tos), m.section("opnnames", m.tos))
	default:
		l = m.plain(whole)
	}
	m.put("endtype")
	return m.from(at, named(kind, s, l...))
}

func (m *maker) section(word string, inner func() []api.Node) api.Node {
	if m.chance() {
		return m.list()
	}
	m.put(word)
	return m.list(inner()...)
}

func (m *maker) plain(whole bool) []api.Node {
	uses := m.list()
	if m.chance() {
		uses = m.list(m.names()...)
	}
	l := []api.Node{uses, m.section("formalsorts", m.names), m.section("formalopns", m.declareSome), m.section("formaleqns", m.equations), m.section("sorts", m.names)}
	if whole {
		m.put("opns")
		l = append(l, m.list(m.declareAll()...))
	} else {
		l = append(l, m.section("opns", m.declareSome))
	}
	return append(l, m.section("eqns", m.equations))
}

// tos makes new names; a Shape with a _ at its end would take what follows it, so a number does.
func (m *maker) tos() []api.Node {
	var l []api.Node
	for m.chance() {
		at := m.at()
		a := m.shape([]string{"7", "12"}[m.r.Intn(2)])
		m.put("for")
		b := m.shape([]string{"a", "_+_", "if _ then _", "<", "0", "_b", "b_"}[m.r.Intn(7)])
		l = append(l, m.from(at, node(api.NdTo, a, b)))
	}
	return l
}

// shape writes a Shape, whose tokens are set apart by what is put between them.
func (m *maker) shape(s string) api.Node {
	at := m.at()
	s = strings.ReplaceAll(s, " ", "")
	for i, piece := range strings.Split(s, "_") {
		if i > 0 {
			m.put("_")
		}
		if piece != "" {
			m.put(piece)
		}
	}
	return m.from(at, name(s))
}

func (m *maker) declareSome() []api.Node {
	var l []api.Node
	for m.chance() {
		l = append(l, m.declare(m.ops)...)
	}
	return l
}

// declareAll declares each operation at least once.
func (m *maker) declareAll() []api.Node {
	var l []api.Node
	for i := range m.ops {
		l = append(l, m.declare(m.ops[i:i+1])...)
	}
	return l
}

// declare makes an Op, of an operation of the list and some names.
func (m *maker) declare(ops []api.Mix) []api.Node {
	var l []api.Node
	if len(ops) > 0 {
		l = append(l, m.declaredName(ops[m.r.Intn(len(ops))]))
	}
	for len(l) == 0 || m.chance() {
		if len(l) > 0 {
			m.put(",")
		}
		n := m.shape([]string{"a", "succ", "0", "+", "7"}[m.r.Intn(5)])
		n.Kind, n.N = api.NdOp, 36
		l = append(l, n)
	}
	m.put(":")
	args := m.list()
	if m.chance() {
		args = m.list(m.names()...)
	}
	m.put("->")
	sort := m.name()
	for i := range l {
		l[i].L = []api.Node{args, sort}
	}
	return l
}

func (m *maker) declaredName(o api.Mix) api.Node {
	at := m.at()
	s, _ := parse.MixName(o)
	n := m.shape(s)
	n.Kind, n.N = api.NdOp, 4*o.Prio+o.Side
	if n.N != 36 || m.chance() {
		m.put("(", strconv.Itoa(o.Prio))
		if o.Side != api.SideNone {
			m.put([]string{"", "left", "right"}[o.Side])
		}
		m.put(")")
	}
	return m.from(at, n)
}

func (m *maker) equations() []api.Node {
	var l []api.Node
	for m.chance() {
		at := m.at()
		vars := m.list()
		if m.chance() {
			m.put("forall")
			vars = m.list(m.decls()...)
		}
		m.put("ofsort")
		s := m.word()
		m.put(s)
		var eqns []api.Node
		for m.chance() {
			eqns = append(eqns, m.equation())
			m.put(";")
		}
		l = append(l, m.from(at, named(api.NdEqns, s, vars, m.list(eqns...))))
	}
	return l
}

func (m *maker) equation() api.Node {
	at := m.at()
	conds := m.list()
	if m.chance() {
		conds = m.eqs()
		m.put("=>")
	}
	return m.from(at, node(api.NdEqn, conds, m.eq()))
}

// made calls a function with texts that were made, and their trees.
func made(rounds int, do func(r reading, text string, want api.Node)) {
	r := newRandom()
	for i := range rounds {
		m := newMaker(r, table())
		var n api.Node
		switch i % 3 {
		case 0:
			n = m.specification()
		case 1:
			n = m.behaviour(4)
		case 2:
			n = m.expr(4)
		}
		m.text.WriteString([]string{"", " ", "(* *)"}[r.Intn(3)])
		do(readings()[i%3], m.text.String(), m.inBytes(n))
	}
}

// P2.1, P2.5: each text is read as the tree with which it was made, with its places.
func TestMadeTrees(t *testing.T) {
	made(6000, func(r reading, text string, want api.Node) {
		if n := mustRead(t, r, text); !equal(n, want) {
			t.Fatalf("%s(%q):\n%s, want\n%s", r.what, text, form(n), form(want))
		}
	})
}
