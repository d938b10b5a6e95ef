package compl

import (
	"cmp"
	"slices"

	"madrigal/api"
	"madrigal/sig"
	"madrigal/types"
)

// Pairs returns the critical pairs of a type, in order.
func Pairs(t api.Type) ([]api.Crit, api.Errno) {
	l, err := pairsOf(t)
	if err != api.OK {
		return nil, err
	}
	var out []api.Crit
	for _, c := range l {
		out = append(out, c.written())
	}
	return out, api.OK
}

func pairsOf(t api.Type) ([]crit, api.Errno) {
	if err := types.Check(t); err != api.OK {
		return nil, err
	}
	var l []crit
	err := attempt(func() { l = newPairer().pairs(equationsOf(t.Eqns), func(one, other int) bool { return true }) })
	return l, err
}

// crit is a critical pair.
type crit struct {
	one, other int
	at         []int
	equation
}

func (c crit) written() api.Crit {
	out := api.Crit{One: c.one, Other: c.other, At: c.at, Vars: c.vars, A: c.a.term(), B: c.b.term()}
	for _, x := range c.conds {
		out.Conds = append(out.Conds, api.Pair{A: x.a.term(), B: x.b.term()})
	}
	return out
}

// compare compares two pairs by their order.
func (c crit) compare(d crit) int {
	return cmp.Or(cmp.Compare(c.one, d.one), slices.Compare(c.at, d.at), cmp.Compare(c.other, d.other))
}

// pairer finds critical pairs. It keeps those of two equations, of which the first one is One, until there are too many.
type pairer struct{ known map[[2]*equation][]crit }

// kept is how many pairs of equations a pairer remembers: those of as many as there can be, and as many again.
const kept = 2 * api.MaxEqns * api.MaxEqns

func newPairer() *pairer { return &pairer{known: map[[2]*equation][]crit{}} }

// pairs returns the critical pairs of equations, of those that are wanted, in order. It throws ErrLimit if there are too many.
func (p *pairer) pairs(l []*equation, wanted func(one, other int) bool) []crit {
	var all []crit
	for i, one := range l {
		for j, other := range l {
			if !wanted(i, j) {
				continue
			}
			for _, c := range p.between(one, other, j < i) {
				c.one, c.other = i, j
				all = append(all, c)
			}
			demand(len(all) <= api.MaxCrits, api.ErrLimit)
		}
	}
	slices.SortFunc(all, crit.compare)
	return all
}

// between returns the critical pairs of two equations, also those at the empty place if Other is less than One.
func (p *pairer) between(one, other *equation, isLess bool) []crit {
	id := [2]*equation{one, other}
	l, met := p.known[id]
	if !met {
		if len(p.known) >= kept {
			clear(p.known)
		}
		l = overlaps(one, other, isLess)
		p.known[id] = l
	}
	return l
}

func overlaps(one, other *equation, isLess bool) []crit {
	var l []crit
	for at, x := range one.a.places() {
		if x.n != other.a.n || len(at) == 0 && !isLess {
			continue
		}
		if c, ok := overlap(one, other, at, x); ok {
			l = append(l, c)
		}
	}
	return l
}

// overlap returns the critical pair of two equations at a place of the left side of the first one, at which x stands, and whether there is one.
func overlap(one, other *equation, at []int, x *node) (crit, bool) {
	many := len(one.vars)
	vars := variables(many + len(other.vars))
	apart := vars[many:]
	l, is, err := sig.Unify(x.term(), other.a.with(apart).term())
	demand(err == api.OK, api.ErrLimit)
	if !is {
		return crit{}, false
	}
	found := slices.Clone(vars)
	for n, t := range l {
		found[n] = of(t)
	}
	terms := []*node{one.a.put(at, other.b.with(apart)).with(found), one.b.with(found)}
	for _, c := range one.conds {
		terms = append(terms, c.a.with(found), c.b.with(found))
	}
	for _, c := range other.conds {
		terms = append(terms, c.a.with(found[many:]), c.b.with(found[many:]))
	}
	return crit{at: slices.Clone(at), equation: normal(slices.Concat(one.vars, other.vars), terms...)}, true
}

// normal returns both sides, and those of conditions, as an equation whose variables are numbered by their first occurrence.
func normal(vars []int, terms ...*node) equation {
	terms, were := numbered(len(vars), terms)
	e := equation{a: terms[0], b: terms[1]}
	for _, n := range were {
		e.vars = append(e.vars, vars[n])
	}
	for i := 2; i < len(terms); i += 2 {
		e.conds = append(e.conds, condition{terms[i], terms[i+1]})
	}
	return e
}
