package sig

import "madrigal/api"

// matched is the greatest variable of a tree that is matched or unified.
const matched = 4000

// Match returns what the variables of a pattern are in a tree, and whether it is an instance.
func Match(p, t api.Term) ([]api.Term, bool, api.Errno) {
	if err := areTrees(p, t); err != api.OK {
		return nil, false, err
	}
	last := greatest(p)
	if last > matched {
		return nil, false, api.ErrArg
	}
	l := make([]api.Term, last+1)
	if !match(p, t, l) {
		return nil, false, api.OK
	}
	return each(l, clone), true, api.OK
}

// match notes in l what the variables of a pattern are in a tree. A variable that was not met yet has Kind 0 there.
func match(p, t api.Term, l []api.Term) bool {
	if p.Kind == api.KVar {
		if l[p.N].Kind != 0 {
			return Same(l[p.N], t)
		}
		l[p.N] = t
		return true
	}
	if !sameRoot(p, t) {
		return false
	}
	for i, x := range p.L {
		if !match(x, t.L[i], l) {
			return false
		}
	}
	return true
}

// sameRoot reports whether two trees differ within their elements alone.
func sameRoot(a, b api.Term) bool {
	return a.Kind == b.Kind && a.N == b.N && len(a.L) == len(b.L)
}
