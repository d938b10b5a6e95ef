package paths_test

import (
	"slices"

	"madrigal/api"
)

// words says by the chapter's words alone, carried out one by one, what terms are by an order.
type words struct{ o api.Order }

// isOrder reports whether o is an order of so many operations.
func isOrder(o api.Order, many int) bool {
	if len(o.Place) != many || len(o.Status) != many {
		return false
	}
	for i, place := range o.Place {
		if place < 0 || place > 255 || o.Status[i] != api.ByLeft && o.Status[i] != api.ByRight && o.Status[i] != api.ByMulti {
			return false
		}
		for j, other := range o.Place {
			if place == other && o.Status[i] != o.Status[j] {
				return false
			}
		}
	}
	return true
}

func (w words) haveEqualPlaces(a, b api.Term) bool {
	return a.Kind == api.KOp && b.Kind == api.KOp && w.o.Place[a.N] == w.o.Place[b.N]
}

func (w words) equal(a, b api.Term) bool {
	if a.Kind == api.KVar && b.Kind == api.KVar {
		return a.N == b.N
	}
	if !w.haveEqualPlaces(a, b) || len(a.L) != len(b.L) {
		return false
	}
	if w.o.Status[a.N] != api.ByMulti {
		return slices.EqualFunc(a.L, b.L, w.equal)
	}
	isOne := func(l []int) bool { return len(l) == len(b.L) && !slices.Contains(l, -1) }
	return slices.ContainsFunc(w.pairings(a, b), isOne)
}

// pairings returns all ways to put arguments of b in pairs with equal arguments of a: for each of b the index of that of a, -1 if there is none.
func (w words) pairings(a, b api.Term) [][]int {
	all := [][]int{{}}
	for _, y := range b.L {
		var longer [][]int
		for _, l := range all {
			for i, x := range a.L {
				if !slices.Contains(l, i) && w.equal(x, y) {
					longer = append(longer, append(slices.Clone(l), i))
				}
			}
			longer = append(longer, append(slices.Clone(l), -1))
		}
		all = longer
	}
	return all
}

func (w words) greater(a, b api.Term) bool {
	if a.Kind != api.KOp {
		return false
	}
	for _, x := range a.L {
		if w.equal(x, b) || w.greater(x, b) {
			return true
		}
	}
	switch {
	case b.Kind != api.KOp:
		return false
	case w.o.Place[b.N] < w.o.Place[a.N]:
		return w.exceedsArgs(a, b)
	case w.o.Place[b.N] > w.o.Place[a.N]:
		return false
	case w.o.Status[a.N] == api.ByMulti:
		return w.isGreaterMultiset(a, b)
	}
	return w.exceedsArgs(a, b) && w.isGreaterList(w.turned(a), w.turned(b))
}

func (w words) exceedsArgs(a, b api.Term) bool {
	return !slices.ContainsFunc(b.L, func(y api.Term) bool { return !w.greater(a, y) })
}

// turned returns the arguments of a term as they are compared.
func (w words) turned(t api.Term) []api.Term {
	l := slices.Clone(t.L)
	if w.o.Status[t.N] == api.ByRight {
		slices.Reverse(l)
	}
	return l
}

func (w words) isGreaterList(l, m []api.Term) bool {
	if len(l) == 0 {
		return false
	}
	if len(m) == 0 {
		return true
	}
	if w.equal(l[0], m[0]) {
		return w.isGreaterList(l[1:], m[1:])
	}
	return w.greater(l[0], m[0])
}

// isGreaterMultiset leaves out as many pairs as can be.
func (w words) isGreaterMultiset(a, b api.Term) bool {
	var most []int
	for _, l := range w.pairings(a, b) {
		if most == nil || unpaired(l) < unpaired(most) {
			most = l
		}
	}
	var left []api.Term
	for i, x := range a.L {
		if !slices.Contains(most, i) {
			left = append(left, x)
		}
	}
	for j, y := range b.L {
		if most[j] < 0 && !slices.ContainsFunc(left, func(x api.Term) bool { return w.greater(x, y) }) {
			return false
		}
	}
	return len(left) > 0
}

func unpaired(l []int) int {
	many := 0
	for _, i := range l {
		if i < 0 {
			many++
		}
	}
	return many
}

// decreases reports whether an equation decreases.
func (w words) decreases(e api.Eqn) bool {
	for _, c := range e.Conds {
		if !w.greater(e.A, c.A) || !w.greater(e.A, c.B) {
			return false
		}
	}
	return w.greater(e.A, e.B)
}

// isProof reports whether p is a proof that a is greater than b.
func (w words) isProof(p api.PathProof, a, b api.Term) bool {
	if a.Kind != api.KOp {
		return false
	}
	switch p.Rule {
	case api.PathSub:
		if len(p.To) > 0 || !isIndex(p.At, a.L) {
			return false
		}
		x := a.L[p.At]
		return w.equal(x, b) && len(p.L) == 0 || len(p.L) == 1 && w.isProof(p.L[0], x, b)
	case api.PathPlace:
		return p.At == 0 && len(p.To) == 0 && b.Kind == api.KOp && w.o.Place[b.N] < w.o.Place[a.N] && w.proveArgs(p.L, a, b)
	case api.PathLex:
		return len(p.To) == 0 && w.haveEqualPlaces(a, b) && w.o.Status[a.N] != api.ByMulti && w.provesList(p, a, b)
	case api.PathMulti:
		return p.At == 0 && w.haveEqualPlaces(a, b) && w.o.Status[a.N] == api.ByMulti && w.provesMultiset(p, a, b)
	}
	return false
}

func isIndex(i int, l []api.Term) bool { return i >= 0 && i < len(l) }

func (w words) proveArgs(l []api.PathProof, a, b api.Term) bool {
	if len(l) != len(b.L) {
		return false
	}
	for j, y := range b.L {
		if !w.isProof(l[j], a, y) {
			return false
		}
	}
	return true
}

func (w words) provesList(p api.PathProof, a, b api.Term) bool {
	l, m := w.turned(a), w.turned(b)
	if !isIndex(p.At, l) || p.At > len(m) {
		return false
	}
	for i := range p.At {
		if !w.equal(l[i], m[i]) {
			return false
		}
	}
	rest := p.L
	if isIndex(p.At, m) {
		if len(rest) == 0 || !w.isProof(rest[0], l[p.At], m[p.At]) {
			return false
		}
		rest = rest[1:]
	}
	return w.proveArgs(rest, a, b)
}

func (w words) provesMultiset(p api.PathProof, a, b api.Term) bool {
	if len(p.To) != len(b.L) || len(p.L) != len(b.L) {
		return false
	}
	free := len(a.L)
	for j, i := range p.To {
		if !isIndex(i, a.L) {
			return false
		}
		if !same(p.L[j], api.PathProof{}) {
			if !w.isProof(p.L[j], a.L[i], b.L[j]) {
				return false
			}
			continue
		}
		others := slices.Delete(slices.Clone(p.To), j, j+1)
		if !w.equal(a.L[i], b.L[j]) || slices.Contains(others, i) {
			return false
		}
		free--
	}
	return free > 0
}
