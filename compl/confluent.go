package compl

import "madrigal/api"

// Confluent returns joins of all critical pairs; otherwise the index of the first one without.
func Confluent(t api.Type, most int) ([]api.Rjoin, int, api.Errno) {
	pairs, err := pairsOf(t)
	if err != api.OK {
		return nil, 0, err
	}
	if !isBound(most) {
		return nil, 0, api.ErrArg
	}
	var joins []api.Rjoin
	var first int
	err = attempt(func() { joins, first = systemOf(t).joins(pairs, most) })
	return joins, first, err
}

// joins returns the joins of critical pairs, and -1; none, and the index of the first one that is not joined, if there is one.
func (s *system) joins(pairs []crit, most int) ([]api.Rjoin, int) {
	var l []api.Rjoin
	for i, c := range pairs {
		j, is := s.join(c.a, c.b, most)
		if !is {
			return nil, i
		}
		l = append(l, j)
	}
	return l, -1
}

// CheckConfluent returns ErrJoin unless l joins all critical pairs of t.
func CheckConfluent(t api.Type, l []api.Rjoin) api.Errno {
	pairs, err := pairsOf(t)
	if err != api.OK {
		return err
	}
	if len(l) != len(pairs) {
		return api.ErrJoin
	}
	return attempt(func() {
		s := systemOf(t)
		for i, c := range pairs {
			s.checkJoin(c.a, c.b, l[i])
		}
	})
}
