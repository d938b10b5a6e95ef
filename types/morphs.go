package types

import (
	"slices"

	"madrigal/api"
	"madrigal/sig"
)

// CheckMorph returns ErrMorph unless m is a morphism.
func CheckMorph(from, to api.Sig, m api.Morph) api.Errno {
	if !areSignatures(from, to) {
		return api.ErrType
	}
	if !isMorphism(from, to, m) {
		return api.ErrMorph
	}
	return api.OK
}

func isMorphism(from, to api.Sig, m api.Morph) bool {
	if len(m.Sorts) != len(from.Sorts) || len(m.Ops) != len(from.Ops) || !areBelow(len(to.Sorts), m.Sorts) || !areBelow(len(to.Ops), m.Ops) {
		return false
	}
	for i, o := range from.Ops {
		if !sameRank(moved(o, m), to.Ops[m.Ops[i]]) {
			return false
		}
	}
	return true
}

// moved returns an operation whose sorts are replaced by a morphism.
func moved(o api.Op, m api.Morph) api.Op {
	return api.Op{Name: o.Name, Args: numbered(o.Args, m.Sorts), Res: m.Sorts[o.Res]}
}

// Identity returns the morphism of a signature to itself.
func Identity(s api.Sig) (api.Morph, api.Errno) {
	if !areSignatures(s) {
		return api.Morph{}, api.ErrType
	}
	return identity(s), api.OK
}

func identity(s api.Sig) api.Morph {
	var m api.Morph
	for i := range s.Sorts {
		m.Sorts = append(m.Sorts, i)
	}
	for i := range s.Ops {
		m.Ops = append(m.Ops, i)
	}
	return m
}

// Compose returns the morphism that is the first one, and then the second one.
func Compose(a, b, c api.Sig, m, n api.Morph) (api.Morph, api.Errno) {
	if !areSignatures(a, b, c) {
		return api.Morph{}, api.ErrType
	}
	if !isMorphism(a, b, m) || !isMorphism(b, c, n) {
		return api.Morph{}, api.ErrMorph
	}
	return api.Morph{Sorts: numbered(m.Sorts, n.Sorts), Ops: numbered(m.Ops, n.Ops)}, api.OK
}

// Image returns a term under a morphism.
func Image(from, to api.Sig, m api.Morph, t api.Term) (api.Term, api.Errno) {
	if err := CheckMorph(from, to, m); err != api.OK {
		return api.Term{}, err
	}
	if !isTerm(from, t) {
		return api.Term{}, api.ErrTerm
	}
	return translation(m)(t), api.OK
}

// isTerm reports whether t is a term over a signature and some sorts of variables.
func isTerm(s api.Sig, t api.Term) bool {
	if t.Kind == api.KVar {
		return sig.Tree(t) == api.OK && t.N < api.MaxVars
	}
	if t.N < 0 || t.N >= len(s.Ops) {
		return false
	}
	sorts, err := sig.Infer(s, []api.Term{t}, []int{s.Ops[t.N].Res})
	return err == api.OK && len(sorts) <= api.MaxVars
}

// translation returns a function that replaces the operations of terms by a morphism.
func translation(m api.Morph) func(api.Term) api.Term {
	var translate func(api.Term) api.Term
	translate = func(t api.Term) api.Term {
		if t.Kind == api.KOp {
			t.N = m.Ops[t.N]
		}
		l := t.L
		t.L = make([]api.Term, len(l))
		for i, x := range l {
			t.L[i] = translate(x)
		}
		return t
	}
	return translate
}

// ImageEqn returns an equation under a morphism.
func ImageEqn(from, to api.Sig, m api.Morph, e api.Eqn) (api.Eqn, api.Errno) {
	if err := CheckMorph(from, to, m); err != api.OK {
		return api.Eqn{}, err
	}
	if !isEquation(from, e) {
		return api.Eqn{}, api.ErrType
	}
	return image(e, m), api.OK
}

// image returns an equation under a morphism. What is standard stays so, since variables keep their places.
func image(e api.Eqn, m api.Morph) api.Eqn {
	translate := translation(m)
	l := slices.Collect(terms(e))
	for i, t := range l {
		l[i] = translate(t)
	}
	return equation(numbered(e.Vars, m.Sorts), l)
}
