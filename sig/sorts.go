package sig

import "madrigal/api"

// inferred is what the variables of trees whose sorts are inferred have to be less than.
const inferred = 4000

// Sort returns the sort of a term over sorts of variables.
func Sort(s api.Sig, vars []int, t api.Term) (int, api.Errno) {
	if err := Check(s); err != api.OK {
		return 0, err
	}
	if !haveSorts(s, vars) {
		return 0, api.ErrArg
	}
	if err := Tree(t); err != api.OK {
		return 0, err
	}
	n, ok := sortOf(s, vars, t)
	if !ok {
		return 0, api.ErrTerm
	}
	return n, api.OK
}

func sortOf(s api.Sig, vars []int, t api.Term) (int, bool) {
	if t.Kind == api.KVar {
		if t.N >= len(vars) {
			return 0, false
		}
		return vars[t.N], true
	}
	o, ok := opOf(s, t)
	if !ok {
		return 0, false
	}
	for i, x := range t.L {
		if n, ok := sortOf(s, vars, x); !ok || n != o.Args[i] {
			return 0, false
		}
	}
	return o.Res, true
}

// opOf returns the operation of the root of a tree, and whether it is one of the signature with as many arguments.
func opOf(s api.Sig, t api.Term) (api.Op, bool) {
	if t.N >= len(s.Ops) || len(s.Ops[t.N].Args) != len(t.L) {
		return api.Op{}, false
	}
	return s.Ops[t.N], true
}

// Infer returns the sorts of the variables of terms that have given sorts, -1 of those that do not occur.
func Infer(s api.Sig, l []api.Term, sorts []int) ([]int, api.Errno) {
	if err := Check(s); err != api.OK {
		return nil, err
	}
	if len(sorts) != len(l) || !haveSorts(s, sorts) {
		return nil, api.ErrArg
	}
	known := map[int]int{}
	for i, t := range l {
		if Tree(t) != api.OK || !infer(s, t, sorts[i], known) {
			return nil, api.ErrTerm
		}
	}
	return listed(known), api.OK
}

// infer adds the sorts that the variables of a tree have if it has a sort. It returns false if that cannot be: an operation has but one result, so there is no choice anywhere.
func infer(s api.Sig, t api.Term, sort int, known map[int]int) bool {
	if t.Kind == api.KVar {
		was, met := known[t.N]
		known[t.N] = sort
		return t.N < inferred && (!met || was == sort)
	}
	o, ok := opOf(s, t)
	if !ok || o.Res != sort {
		return false
	}
	for i, x := range t.L {
		if !infer(s, x, o.Args[i], known) {
			return false
		}
	}
	return true
}

// listed returns the sorts of variables as a list.
func listed(known map[int]int) []int {
	last := -1
	for n := range known {
		last = max(last, n)
	}
	l := make([]int, last+1)
	for n := range l {
		l[n] = -1
	}
	for n, sort := range known {
		l[n] = sort
	}
	return l
}
