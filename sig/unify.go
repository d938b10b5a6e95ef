package sig

import "madrigal/api"

// Unify returns a most general unifier of two trees, and whether there is one.
func Unify(a, b api.Term) ([]api.Term, bool, api.Errno) {
	if err := areTrees(a, b); err != api.OK {
		return nil, false, err
	}
	last := greatest(a, b)
	if last > matched {
		return nil, false, api.ErrArg
	}
	u := &unifier{became: map[int]api.Term{}}
	switch err := u.look(a, b); err {
	case api.OK:
		return u.unified(last + 1)
	case api.ErrNone:
		return nil, false, api.OK
	default:
		return nil, false, err
	}
}

// unifier is what variables became so far. That is not put into each other while pairs are looked at, for it could be too great before it is known whether there is a unifier at all.
type unifier struct {
	became map[int]api.Term
	looked int
}

// look makes a pair of trees equal. It returns ErrNone if that cannot be.
func (u *unifier) look(a, b api.Term) api.Errno {
	u.looked++
	if u.looked > api.MaxUnify {
		return api.ErrLimit
	}
	a, b = u.root(a), u.root(b)
	switch {
	case a.Kind == api.KVar && sameRoot(a, b):
		return api.OK
	case b.Kind == api.KVar && (a.Kind != api.KVar || a.N < b.N):
		a, b = b, a
		fallthrough
	case a.Kind == api.KVar:
		return u.become(a.N, b)
	case sameRoot(a, b):
		return u.lookWithin(a, b)
	}
	return api.ErrNone
}

// root returns what a tree is as far as its root: for a variable, what it became.
func (u *unifier) root(t api.Term) api.Term {
	for t.Kind == api.KVar {
		next, ok := u.became[t.N]
		if !ok {
			break
		}
		t = next
	}
	return t
}

func (u *unifier) lookWithin(a, b api.Term) api.Errno {
	for i, x := range a.L {
		if err := u.look(x, b.L[i]); err != api.OK {
			return err
		}
	}
	return api.OK
}

func (u *unifier) become(n int, t api.Term) api.Errno {
	if u.occurs(n, t) {
		return api.ErrNone
	}
	u.became[n] = t
	return api.OK
}

// occurs reports whether a variable is within a tree, with everything that was found put in. It looks into each variable once, however often that is there.
func (u *unifier) occurs(n int, t api.Term) bool {
	met := map[int]bool{}
	var lacks func(x api.Term, deep int) bool
	lacks = func(x api.Term, deep int) bool {
		if x.Kind != api.KVar || met[x.N] {
			return true
		}
		met[x.N] = true
		return x.N != n && walk(u.became[x.N], deep, lacks)
	}
	return !walk(t, 1, lacks)
}

// unified returns the first many variables with everything put into everything.
func (u *unifier) unified(many int) ([]api.Term, bool, api.Errno) {
	l := make([]api.Term, many)
	var settle func(n int) bool
	settle = func(n int) bool {
		t, became := u.became[n]
		if l[n].Kind != 0 {
			return true
		}
		if !became {
			l[n] = variable(n)
			return true
		}
		for _, m := range variables(t) {
			if !settle(m) {
				return false
			}
		}
		var ok bool
		l[n], ok = grown(t, func(m int) api.Term { return l[m] })
		return ok
	}
	for n := range l {
		if !settle(n) {
			return nil, false, api.ErrLimit
		}
	}
	return l, true, api.OK
}
