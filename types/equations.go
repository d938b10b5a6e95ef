package types

import (
	"iter"
	"slices"
	"strconv"

	"madrigal/api"
	"madrigal/sig"
)

// terms goes through the terms of an equation: both sides, and then those of its conditions.
func terms(e api.Eqn) iter.Seq[api.Term] {
	return func(yield func(api.Term) bool) {
		if !yield(e.A) || !yield(e.B) {
			return
		}
		for _, c := range e.Conds {
			if !yield(c.A) || !yield(c.B) {
				return
			}
		}
	}
}

// equation returns the equation whose terms are these, in the order of terms.
func equation(vars []int, l []api.Term) api.Eqn {
	e := api.Eqn{Vars: vars, A: l[0], B: l[1]}
	for i := 2; i < len(l); i += 2 {
		e.Conds = append(e.Conds, api.Pair{A: l[i], B: l[i+1]})
	}
	return e
}

// isEquation reports whether e is an equation over what is known to be a signature, but for how many sorts and operations it has.
func isEquation(s api.Sig, e api.Eqn) bool {
	if len(e.Vars) > api.MaxVars || len(e.Conds) > api.MaxConds || !areBelow(len(s.Sorts), e.Vars) {
		return false
	}
	if e.A.Kind != api.KOp || !haveOneSort(s, e.Vars, e.A, e.B) {
		return false
	}
	for _, c := range e.Conds {
		if !haveOneSort(s, e.Vars, c.A, c.B) {
			return false
		}
	}
	// Only variables that A does not have could make the list longer.
	return len(sig.Vars(slices.Collect(terms(e)))) == len(sig.Vars([]api.Term{e.A}))
}

// haveOneSort reports whether both are terms over sorts of variables, of the same sort.
func haveOneSort(s api.Sig, vars []int, a, b api.Term) bool {
	if sig.Tree(a) != api.OK || sig.Tree(b) != api.OK {
		return false
	}
	m, ok := sortOf(s, vars, a)
	n, is := sortOf(s, vars, b)
	return ok && is && m == n
}

// sortOf returns the sort of a tree, if it is a term. It does not ask sig.Sort, which would look at the whole signature for each term.
func sortOf(s api.Sig, vars []int, t api.Term) (int, bool) {
	if t.Kind == api.KVar {
		if t.N >= len(vars) {
			return 0, false
		}
		return vars[t.N], true
	}
	if t.N >= len(s.Ops) || len(s.Ops[t.N].Args) != len(t.L) {
		return 0, false
	}
	o := s.Ops[t.N]
	for i, x := range t.L {
		if n, ok := sortOf(s, vars, x); !ok || n != o.Args[i] {
			return 0, false
		}
	}
	return o.Res, true
}

// standard returns what is known to be an equation with its variables numbered anew. All of them occur in A, which is numbered first.
func standard(e api.Eqn) api.Eqn {
	l, were, _ := sig.Normal(slices.Collect(terms(e)))
	return equation(numbered(were, e.Vars), l)
}

// numbered returns which of some numbers each element of a list means.
func numbered(l, numbers []int) []int {
	out := make([]int, len(l))
	for i, n := range l {
		out[i] = numbers[n]
	}
	return out
}

// key returns a text that of the standard equations over a signature only equal ones have in common. The sorts of variables are not in it, for they follow from the operations around these.
func key(e api.Eqn) string {
	var text []byte
	put := func(l ...int) {
		for _, n := range l {
			text = append(strconv.AppendInt(text, int64(n), 10), ' ')
		}
	}
	var visit func(t api.Term)
	visit = func(t api.Term) {
		put(t.Kind, t.N, len(t.L))
		for _, x := range t.L {
			visit(x)
		}
	}
	for t := range terms(e) {
		visit(t)
	}
	return string(text)
}

func sameEquation(a, b api.Eqn) bool {
	return slices.Equal(a.Vars, b.Vars) && slices.EqualFunc(a.Conds, b.Conds, samePair) && sig.Same(a.A, b.A) && sig.Same(a.B, b.B)
}

func samePair(a, b api.Pair) bool { return sig.Same(a.A, b.A) && sig.Same(a.B, b.B) }
