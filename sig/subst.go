package sig

import "madrigal/api"

// shifted is the greatest variable that a tree can have where its variables were shifted.
const shifted = 1000000

// Subst returns a tree with trees in the places of its variables.
func Subst(t api.Term, l []api.Term) (api.Term, api.Errno) {
	if Tree(t) != api.OK || areTrees(l...) != api.OK {
		return api.Term{}, api.ErrTerm
	}
	if greatest(t) >= len(l) {
		return api.Term{}, api.ErrArg
	}
	out, ok := grown(t, func(n int) api.Term { return l[n] })
	if !ok {
		return api.Term{}, api.ErrLimit
	}
	return out, api.OK
}

// Shift returns a tree whose variables from one on have other numbers.
func Shift(t api.Term, from, by int) (api.Term, api.Errno) {
	if err := Tree(t); err != api.OK {
		return api.Term{}, err
	}
	if from < 0 {
		return api.Term{}, api.ErrArg
	}
	for _, n := range variables(t) {
		// Neither difference goes beyond an int, as a sum could.
		if n >= from && (by < from-n || by > shifted-n) {
			return api.Term{}, api.ErrArg
		}
	}
	return replaced(t, func(n int) api.Term {
		if n < from {
			return variable(n)
		}
		return variable(n + by)
	}), api.OK
}

// Normal returns trees whose variables are numbered by their first occurrence, and which ones they were.
func Normal(l []api.Term) ([]api.Term, []int, api.Errno) {
	if err := areTrees(l...); err != api.OK {
		return nil, nil, err
	}
	were := variables(l...)
	number := map[int]int{}
	for i, n := range were {
		number[n] = i
	}
	return each(l, func(t api.Term) api.Term {
		return replaced(t, func(n int) api.Term { return variable(number[n]) })
	}), were, api.OK
}

func variable(n int) api.Term { return api.Term{Kind: api.KVar, N: n} }

// each returns what a function makes of the elements of a list.
func each(l []api.Term, change func(api.Term) api.Term) []api.Term {
	out := make([]api.Term, len(l))
	for i, t := range l {
		out[i] = change(t)
	}
	return out
}

// clone returns a tree in new memory.
func clone(t api.Term) api.Term {
	t.L = each(t.L, clone)
	return t
}

// replaced returns a tree, in new memory, with what put returns in the places of its variables.
func replaced(t api.Term, put func(n int) api.Term) api.Term {
	if t.Kind == api.KVar {
		return clone(put(t.N))
	}
	t.L = each(t.L, func(x api.Term) api.Term { return replaced(x, put) })
	return t
}

// grown is replaced, if that is no greater than a tree can be. It is measured before any of it is made, since it can be as great as two trees times each other.
func grown(t api.Term, put func(n int) api.Term) (api.Term, bool) {
	fits := limits()
	count := func(_ api.Term, deep int) bool { return fits(deep) }
	if !walk(t, 1, func(x api.Term, deep int) bool {
		if x.Kind == api.KVar {
			return walk(put(x.N), deep, count)
		}
		return fits(deep)
	}) {
		return api.Term{}, false
	}
	return replaced(t, put), true
}
