package sig

import "madrigal/api"

// Paths returns the places of a tree.
func Paths(t api.Term) ([][]int, api.Errno) {
	if err := Tree(t); err != api.OK {
		return nil, err
	}
	var all [][]int
	var visit func(t api.Term, at []int)
	visit = func(t api.Term, at []int) {
		all = append(all, at)
		for i, x := range t.L {
			// The capacity ends with the place, so that what grows out of it has memory of its own.
			visit(x, append(at[:len(at):len(at)], i))
		}
	}
	visit(t, nil)
	return all, api.OK
}

// At returns what stands at a place of a tree.
func At(t api.Term, path []int) (api.Term, api.Errno) {
	if err := Tree(t); err != api.OK {
		return api.Term{}, err
	}
	x := node(&t, path)
	if x == nil {
		return api.Term{}, api.ErrPath
	}
	return clone(*x), api.OK
}

// Put returns a tree with another one at a place.
func Put(t api.Term, path []int, u api.Term) (api.Term, api.Errno) {
	if err := areTrees(t, u); err != api.OK {
		return api.Term{}, err
	}
	out := clone(t)
	x := node(&out, path)
	if x == nil {
		return api.Term{}, api.ErrPath
	}
	*x = clone(u)
	if Tree(out) != api.OK {
		return api.Term{}, api.ErrLimit
	}
	return out, api.OK
}

// node returns the node at a place of a tree, nil if it is none.
func node(t *api.Term, path []int) *api.Term {
	for _, i := range path {
		if i < 0 || i >= len(t.L) {
			return nil
		}
		t = &t.L[i]
	}
	return t
}
