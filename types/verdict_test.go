package types_test

import (
	"slices"
	"strings"
	"testing"

	"madrigal/api"
)

// What follows says what is wrong with modules, in the order of the chapter.

// verdict returns what CheckModules should return.
func verdict(t *testing.T, l []api.Module) api.Errno {
	t.Helper()
	if len(l) > 40 {
		return api.ErrModule
	}
	for k := range l {
		if err := verdictOf(t, l, k); err != api.OK {
			return err
		}
	}
	return api.OK
}

// verdictOf is the verdict of the module k, where those ahead of it are modules.
func verdictOf(t *testing.T, l []api.Module, k int) api.Errno {
	t.Helper()
	m := l[k]
	if !isName(m.Name) || slices.ContainsFunc(l[:k], func(x api.Module) bool { return x.Name == m.Name }) {
		return api.ErrModule
	}
	if slices.ContainsFunc(m.Uses, func(n int) bool { return n < 0 || n >= k }) {
		return api.ErrModule
	}
	used, _ := known(t, l, k)
	if !isShaped(m, used) {
		return api.ErrModule
	}
	bare := slices.Clone(l[:k+1])
	bare[k].Formal.Eqns, bare[k].Own.Eqns = nil, nil
	x := expect(bare, k, used, nil)
	if x.clash {
		return api.ErrModule
	}
	if len(x.sorts.texts) > 64 || len(x.ops.texts) > 256 {
		return api.ErrLimit
	}
	if m.Kind == api.MoText && !areEqns(m, x, used) {
		return api.ErrModule
	}
	if x = expect(l, k, used, nil); len(x.eqns.texts) > 400 {
		return api.ErrLimit
	}
	return api.OK
}

func isName(s string) bool {
	return len(s) >= 1 && len(s) <= 32 && !strings.ContainsFunc(s, func(c rune) bool { return c <= 32 || c >= 127 || c == '(' || c == ')' || c == ',' })
}

func isEmptyType(x api.Type) bool { return same(x, api.Type{}) }

// isShaped reports whether a module is one but for its equations and for clashes of marks.
func isShaped(m api.Module, used []api.Flat) bool {
	switch m.Kind {
	case api.MoText:
		uses := slices.Sorted(slices.Values(m.Uses))
		return len(m.Sorts)+len(m.Ops)+len(m.SortTo)+len(m.OpTo) == 0 && len(slices.Compact(uses)) == len(m.Uses) && areNew(m, used)
	case api.MoRename:
		return len(m.SortTo)+len(m.OpTo) == 0 && isEmptyType(m.Formal) && isEmptyType(m.Own) && len(used) == 1 && len(m.Sorts) == len(used[0].Sorts) && len(m.Ops) == len(used[0].Ops) && areNames(m, used[0].Type.Sig)
	case api.MoActual:
		return len(m.Sorts)+len(m.Ops) == 0 && isEmptyType(m.Formal) && isEmptyType(m.Own) && len(used) == 2 && fits(m, used[0], used[1])
	}
	return false
}

// isOp reports whether an operation is one over sorts.
func isOp(x api.Op, sorts int) bool {
	under := strings.Count(x.Name, "_")
	if !isName(x.Name) || len(x.Args) > 8 || under > 0 && (under != len(x.Args) || under == len(x.Name)) {
		return false
	}
	return !slices.ContainsFunc(append([]int{x.Res}, x.Args...), func(n int) bool { return n < 0 || n >= sorts })
}

func isSort(s string) bool { return isName(s) && !strings.Contains(s, "_") }

// areDifferent reports whether no text is there twice.
func areDifferent(l []string) bool {
	return len(slices.Compact(slices.Sorted(slices.Values(l)))) == len(l)
}

// areNew reports whether what MoText writes is right, and not there already.
func areNew(m api.Module, used []api.Flat) bool {
	var base expected
	for _, f := range used {
		base.addParts(viewOf(f.Type.Sig), f, true)
	}
	sorts, ops := slices.Clone(base.sorts.texts), slices.Clone(base.ops.texts)
	for _, part := range []api.Sig{m.Formal.Sig, m.Own.Sig} {
		for _, name := range part.Sorts {
			if !isSort(name) {
				return false
			}
			sorts = append(sorts, name)
		}
		for _, x := range part.Ops {
			if !isOp(x, len(sorts)) {
				return false
			}
			ops = append(ops, written(x, sorts))
		}
	}
	return areDifferent(sorts) && areDifferent(ops)
}

// areNames reports whether the names of MoRename make a signature.
func areNames(m api.Module, s api.Sig) bool {
	var ops []string
	for i, x := range s.Ops {
		x.Name = m.Ops[i]
		if !isOp(x, len(s.Sorts)) {
			return false
		}
		ops = append(ops, written(x, m.Sorts))
	}
	return !slices.ContainsFunc(m.Sorts, func(s string) bool { return !isSort(s) }) && areDifferent(m.Sorts) && areDifferent(ops)
}

// fits reports whether what MoActual puts in the places of formal parts fits there.
func fits(m api.Module, first, second api.Flat) bool {
	count := func(l []bool) int { return len(slices.DeleteFunc(slices.Clone(l), func(is bool) bool { return !is })) }
	outside := func(many int) func(n int) bool { return func(n int) bool { return n < 0 || n >= many } }
	if count(first.Sorts) != len(m.SortTo) || count(first.Ops) != len(m.OpTo) || slices.ContainsFunc(m.SortTo, outside(len(second.Sorts))) || slices.ContainsFunc(m.OpTo, outside(len(second.Ops))) {
		return false
	}
	w := replaced(m, first, second)
	to := m.OpTo
	for i, x := range first.Type.Sig.Ops {
		if !first.Ops[i] {
			continue
		}
		y := second.Type.Sig.Ops[to[0]]
		x.Name, to = y.Name, to[1:]
		if written(x, w.sorts) != written(y, second.Type.Sig.Sorts) {
			return false
		}
	}
	return true
}

// areEqns reports whether the equations of MoText are some.
func areEqns(m api.Module, x expected, used []api.Flat) bool {
	var base expected
	for _, f := range used {
		base.addParts(viewOf(f.Type.Sig), f, true)
	}
	sorts := len(base.sorts.texts) + len(m.Formal.Sig.Sorts)
	var ops []api.Op
	for i, text := range x.ops.texts[:len(base.ops.texts)] {
		ops = append(ops, read(text, x.sorts.texts))
		if written(ops[i], x.sorts.texts) != text {
			panic("an operation that is not read back")
		}
	}
	ops = append(ops, m.Formal.Sig.Ops...)
	for _, e := range m.Formal.Eqns {
		if !isEqn(sorts, ops, e) {
			return false
		}
	}
	sorts += len(m.Own.Sig.Sorts)
	ops = append(ops, m.Own.Sig.Ops...)
	for _, e := range m.Own.Eqns {
		if !isEqn(sorts, ops, e) {
			return false
		}
	}
	return true
}

// read returns an operation of its name with sorts.
func read(text string, sorts []string) api.Op {
	name, rest, _ := strings.Cut(text, "(")
	args, res, _ := strings.Cut(rest, ")")
	x := api.Op{Name: name, Res: slices.Index(sorts, res)}
	for _, s := range strings.Split(args, ",") {
		if s != "" {
			x.Args = append(x.Args, slices.Index(sorts, s))
		}
	}
	return x
}

// isEqn reports whether e is an equation over so many sorts, and operations.
func isEqn(sorts int, ops []api.Op, e api.Eqn) bool {
	if len(e.Vars) > 64 || len(e.Conds) > 8 || e.A.Kind == api.KVar || slices.ContainsFunc(e.Vars, func(n int) bool { return n < 0 || n >= sorts }) {
		return false
	}
	l := termsOf(e)
	for i := 0; i < len(l); i += 2 {
		a, b := termSort(ops, e.Vars, l[i]), termSort(ops, e.Vars, l[i+1])
		if a < 0 || a != b {
			return false
		}
	}
	in := variablesOf(e.A)
	for _, t := range l {
		for _, n := range variablesOf(t) {
			if !slices.Contains(in, n) {
				return false
			}
		}
	}
	return true
}

// termSort returns the sort of a term, -1 if it is none.
func termSort(ops []api.Op, vars []int, t api.Term) int {
	left := 2000
	var sort func(t api.Term, deep int) int
	sort = func(t api.Term, deep int) int {
		left--
		if left < 0 || deep > 200 || t.N < 0 {
			return -1
		}
		if t.Kind == api.KVar && t.N < len(vars) && len(t.L) == 0 {
			return vars[t.N]
		}
		if t.Kind != api.KOp || t.N >= len(ops) || len(ops[t.N].Args) != len(t.L) {
			return -1
		}
		for i, x := range t.L {
			if sort(x, deep+1) != ops[t.N].Args[i] {
				return -1
			}
		}
		return ops[t.N].Res
	}
	return sort(t, 1)
}
