package types_test

import (
	"slices"
	"strconv"
	"strings"
	"testing"

	"madrigal/api"
	"madrigal/types"
)

// What follows says by names alone what the chapter says of numbers: in signatures of modules, equal names mean equal parts.

// view is the names of sorts, and of operations with their sorts.
type view struct{ sorts, ops []string }

func viewOf(s api.Sig) view {
	w := view{sorts: s.Sorts}
	for _, x := range s.Ops {
		w.ops = append(w.ops, written(x, s.Sorts))
	}
	return w
}

// written is an operation by names of sorts.
func written(x api.Op, sorts []string) string {
	text := x.Name + "("
	for _, n := range x.Args {
		text += sorts[n] + ","
	}
	return text + ")" + sorts[x.Res]
}

// eqn is an equation by these names, with the variables as they are numbered.
func (w view) eqn(e api.Eqn) string {
	var b strings.Builder
	for i, n := range e.Vars {
		b.WriteString("x" + strconv.Itoa(i) + ":" + w.sorts[n] + " ")
	}
	for _, t := range termsOf(e) {
		w.term(&b, t)
		b.WriteString(" ; ")
	}
	return b.String()
}

func (w view) term(b *strings.Builder, t api.Term) {
	if t.Kind == api.KVar {
		b.WriteString("x" + strconv.Itoa(t.N))
		return
	}
	b.WriteString(w.ops[t.N] + "[")
	for _, x := range t.L {
		w.term(b, x)
		b.WriteString(" ")
	}
	b.WriteString("]")
}

func termsOf(e api.Eqn) []api.Term {
	l := []api.Term{e.A, e.B}
	for _, c := range e.Conds {
		l = append(l, c.A, c.B)
	}
	return l
}

// variablesOf returns the variables of a term, each once, in the order of their first occurrence.
func variablesOf(t api.Term) []int {
	if t.Kind == api.KVar {
		return []int{t.N}
	}
	var l []int
	for _, x := range t.L {
		for _, n := range variablesOf(x) {
			if !slices.Contains(l, n) {
				l = append(l, n)
			}
		}
	}
	return l
}

// renumbered returns an equation whose variables are those that its left side has, in their order there.
func renumbered(e api.Eqn) api.Eqn {
	l := variablesOf(e.A)
	put := func(t api.Term) api.Term {
		return changed(t, func(n int) api.Term { return v(slices.Index(l, n)) })
	}
	out := api.Eqn{A: put(e.A), B: put(e.B)}
	for _, c := range e.Conds {
		out.Conds = append(out.Conds, api.Pair{A: put(c.A), B: put(c.B)})
	}
	for _, n := range l {
		out.Vars = append(out.Vars, e.Vars[n])
	}
	return out
}

// changed returns a term with others in the places of its variables.
func changed(t api.Term, put func(n int) api.Term) api.Term {
	if t.Kind == api.KVar {
		return put(t.N)
	}
	var l []api.Term
	for _, x := range t.L {
		l = append(l, changed(x, put))
	}
	return op(t.N, l...)
}

// marked is texts of parts, each once, and which are formal.
type marked struct {
	texts  []string
	formal []bool
}

// add adds a part; of one that is there, the mark is that of both. It reports whether it was there with another mark.
func (m *marked) add(text string, formal bool) bool {
	i := slices.Index(m.texts, text)
	if i < 0 {
		m.texts, m.formal = append(m.texts, text), append(m.formal, formal)
		return false
	}
	was := m.formal[i]
	m.formal[i] = was && formal
	return was != formal
}

// expected is a flat by names, with the names that the parts of the used modules have in it, and the duties in it.
type expected struct {
	sorts, ops, eqns marked
	seen             []view
	owed             []string
	clash            bool
}

func (x *expected) addParts(w view, f api.Flat, formalToo bool) {
	for i, name := range w.sorts {
		if formalToo || !f.Sorts[i] {
			x.clash = x.sorts.add(name, f.Sorts[i]) || x.clash
		}
	}
	for i, name := range w.ops {
		if formalToo || !f.Ops[i] {
			x.clash = x.ops.add(name, f.Ops[i]) || x.clash
		}
	}
	x.seen = append(x.seen, w)
}

func (x *expected) addEqns(w view, f api.Flat, formalToo bool) {
	for i, e := range f.Type.Eqns {
		if formalToo || !f.Eq[i] {
			x.eqns.add(w.eqn(e), f.Eq[i])
		}
	}
}

func (x *expected) owe(module int, e string) {
	text := strconv.Itoa(module) + ": " + e
	if !slices.Contains(x.owed, text) {
		x.owed = append(x.owed, text)
	}
}

// replaced returns the names that the parts of the first module of MoActual have in it.
func replaced(m api.Module, first, second api.Flat) view {
	w := view{sorts: slices.Clone(first.Type.Sig.Sorts)}
	to := m.SortTo
	for i, is := range first.Sorts {
		if is {
			w.sorts[i], to = second.Type.Sig.Sorts[to[0]], to[1:]
		}
	}
	to = m.OpTo
	for i, x := range first.Type.Sig.Ops {
		name := written(x, w.sorts)
		if first.Ops[i] {
			name, to = viewOf(second.Type.Sig).ops[to[0]], to[1:]
		}
		w.ops = append(w.ops, name)
	}
	return w
}

// expect returns what the module k amounts to, of flats and duties of the used modules. The module has to be one, but for clashes of marks.
func expect(l []api.Module, k int, used []api.Flat, due [][]api.Duty) expected {
	var x expected
	m := l[k]
	switch m.Kind {
	case api.MoText:
		for _, f := range used {
			x.addParts(viewOf(f.Type.Sig), f, true)
			x.addEqns(viewOf(f.Type.Sig), f, true)
		}
		w := view{sorts: slices.Concat(x.sorts.texts, m.Formal.Sig.Sorts, m.Own.Sig.Sorts), ops: slices.Clone(x.ops.texts)}
		for i, part := range []api.Type{m.Formal, m.Own} {
			for _, name := range part.Sig.Sorts {
				x.sorts.add(name, i == 0)
			}
			for _, o := range part.Sig.Ops {
				w.ops = append(w.ops, written(o, w.sorts))
				x.ops.add(written(o, w.sorts), i == 0)
			}
		}
		for i, part := range []api.Type{m.Formal, m.Own} {
			for _, e := range part.Eqns {
				x.eqns.add(w.eqn(renumbered(e)), i == 0)
			}
		}
	case api.MoRename:
		f := copied(used[0])
		f.Type.Sig.Sorts = m.Sorts
		for i := range f.Type.Sig.Ops {
			f.Type.Sig.Ops[i].Name = m.Ops[i]
		}
		x.addParts(viewOf(f.Type.Sig), f, true)
		x.addEqns(viewOf(f.Type.Sig), f, true)
	case api.MoActual:
		first, second := replaced(m, used[0], used[1]), viewOf(used[1].Type.Sig)
		x.addParts(second, used[1], true)
		x.addParts(first, used[0], false)
		x.addEqns(second, used[1], true)
		x.addEqns(first, used[0], false)
		x.seen = []view{first, second}
	}
	for i, d := range due {
		for _, y := range d {
			x.owe(y.Module, x.seen[i].eqn(y.Eqn))
		}
	}
	if m.Kind == api.MoActual {
		for i, e := range used[0].Type.Eqns {
			if used[0].Eq[i] {
				x.owe(k, x.seen[0].eqn(e))
			}
		}
	}
	return x
}

// known returns the flats of the used modules, and the duties in them.
func known(t *testing.T, l []api.Module, k int) ([]api.Flat, [][]api.Duty) {
	t.Helper()
	var used []api.Flat
	var due [][]api.Duty
	for _, n := range l[k].Uses {
		used = append(used, flatten(t, l[:k], n))
		due = append(due, duties(t, l[:k], n))
	}
	return used, due
}

// checkModule holds what the package says of the module k of a list against what is expected.
func checkModule(t *testing.T, l []api.Module, k int) {
	t.Helper()
	used, due := known(t, l, k)
	want := expect(l, k, used, due)
	f := flatten(t, l, k)
	w := viewOf(f.Type.Sig)
	var eqns []string
	for _, e := range f.Type.Eqns {
		eqns = append(eqns, w.eqn(e))
	}
	if got := []marked{{w.sorts, f.Sorts}, {w.ops, f.Ops}, {eqns, f.Eq}}; !same(got, []marked{want.sorts, want.ops, want.eqns}) {
		t.Fatalf("Flatten(%v, %d):\n%v\nwant\n%v", l, k, got, []marked{want.sorts, want.ops, want.eqns})
	}
	for i, n := range l[k].Uses {
		m := into(t, l, k, i)
		from := flatten(t, l, n).Type.Sig
		if types.CheckMorph(from, f.Type.Sig, m) != api.OK || !slices.Equal(pick(w.sorts, m.Sorts), want.seen[i].sorts) || !slices.Equal(pick(w.ops, m.Ops), want.seen[i].ops) {
			t.Fatalf("Into(%v, %d, %d): %v", l, k, i, m)
		}
	}
	var owed []string
	for _, d := range duties(t, l, k) {
		owed = append(owed, strconv.Itoa(d.Module)+": "+w.eqn(d.Eqn))
	}
	if !slices.Equal(owed, want.owed) {
		t.Fatalf("Duties(%v, %d):\n%v\nwant\n%v", l, k, owed, want.owed)
	}
	isOpen := slices.Contains(slices.Concat(f.Sorts, f.Ops, f.Eq), true)
	closed, err := types.Closed(l, k)
	if isOpen && (err != api.ErrOpen || !same(closed, api.Type{})) || !isOpen && (err != api.OK || !same(closed, f.Type)) {
		t.Fatalf("Closed(%v, %d): %v, error %d", l, k, closed, err)
	}
}

// pick returns the elements of a list with some numbers.
func pick(l []string, at []int) []string {
	var out []string
	for _, i := range at {
		out = append(out, l[i])
	}
	return out
}
