package sig_test

import (
	"math/rand"
	"slices"
	"testing"

	"madrigal/api"
	"madrigal/sig"
)

func v(n int) api.Term { return api.Term{Kind: api.KVar, N: n} }

func op(n int, l ...api.Term) api.Term { return api.Term{Kind: api.KOp, N: n, L: l} }

// The operations of the chapter's examples.
func zero() api.Term              { return op(0) }
func succ(x api.Term) api.Term    { return op(1, x) }
func plus(x, y api.Term) api.Term { return op(2, x, y) }
func same(x, y api.Term) api.Term { return op(3, x, y) }

const (
	nat  = 0
	boul = 1
)

// numbers is the signature of the chapter's examples.
func numbers() api.Sig {
	return api.Sig{Sorts: []string{"nat", "bool"}, Ops: []api.Op{{Name: "0"}, {Name: "s", Args: []int{nat}}, {Name: "_+_", Args: []int{nat, nat}}, {Name: "_eq_", Args: []int{nat, nat}, Res: boul}}}
}

// chain is a tree of so many nodes below each other, which ends with t.
func chain(nodes int, t api.Term) api.Term {
	for range nodes - 1 {
		t = succ(t)
	}
	return t
}

// bush is a flat tree without variables of so many nodes.
func bush(nodes int) api.Term {
	if nodes <= 1 {
		return zero()
	}
	left := nodes - 1
	parts := min(left, api.MaxArgs)
	t := op(10)
	for ; parts > 0; parts-- {
		t.L = append(t.L, bush(left/parts))
		left -= left / parts
	}
	return t
}

// doubled is a tree that has itself as both elements, so many times: far too great to be looked at.
func doubled(times int) api.Term {
	t := zero()
	for range times {
		t = plus(t, t)
	}
	return t
}

// noTrees are terms that are no trees, each for one reason.
func noTrees() []api.Term {
	return []api.Term{
		{}, {Kind: 3}, {Kind: -1}, {Kind: api.KVar, N: -1}, {Kind: api.KOp, N: -1}, {Kind: api.KVar, L: []api.Term{zero()}}, {L: []api.Term{zero()}},
		op(0, make([]api.Term, 9)...), op(0, v(0), v(0), v(0), v(0), v(0), v(0), v(0), v(0), v(0)), plus(zero(), api.Term{}), plus(api.Term{}, zero()), succ(succ(v(-1))),
		chain(201, zero()), chain(201, v(0)), bush(2001), doubled(100), plus(v(0), chain(200, zero())),
	}
}

// flat returns the nodes of a term, each ahead of its elements, as kind, number and how many elements it has.
func flat(t api.Term) []int {
	l := []int{t.Kind, t.N, len(t.L)}
	for _, x := range t.L {
		l = append(l, flat(x)...)
	}
	return l
}

func equal(a, b api.Term) bool { return slices.Equal(flat(a), flat(b)) }

func equals(a, b []api.Term) bool { return slices.EqualFunc(a, b, equal) }

// copied returns a term in memory of its own.
func copied(t api.Term) api.Term {
	var l []api.Term
	for _, x := range t.L {
		l = append(l, copied(x))
	}
	t.L = l
	return t
}

func copies(l []api.Term) []api.Term {
	var out []api.Term
	for _, t := range l {
		out = append(out, copied(t))
	}
	return out
}

// with returns a term with terms in the places of its variables.
func with(t api.Term, l []api.Term) api.Term {
	if t.Kind == api.KVar {
		return copied(l[t.N])
	}
	out := op(t.N)
	for _, x := range t.L {
		out.L = append(out.L, with(x, l))
	}
	return out
}

// renamed returns a term with other numbers of variables.
func renamed(t api.Term, number func(n int) int) api.Term {
	t = copied(t)
	if t.Kind == api.KVar {
		t.N = number(t.N)
	}
	for i := range t.L {
		t.L[i] = renamed(t.L[i], number)
	}
	return t
}

// occurring returns the variables of terms by their first occurrence.
func occurring(l ...api.Term) []int {
	var vars []int
	for _, t := range l {
		nodes := flat(t)
		for i := 0; i < len(nodes); i += 3 {
			if nodes[i] == api.KVar && !slices.Contains(vars, nodes[i+1]) {
				vars = append(vars, nodes[i+1])
			}
		}
	}
	return vars
}

// last returns the greatest variable of terms, -1 if there is none.
func last(l ...api.Term) int {
	return slices.Max(append([]int{-1}, occurring(l...)...))
}

// places returns all places of a term.
func places(t api.Term) [][]int {
	all := [][]int{{}}
	for i, x := range t.L {
		for _, p := range places(x) {
			all = append(all, append([]int{i}, p...))
		}
	}
	return all
}

// at returns what stands at a place of a term.
func at(t api.Term, path []int) api.Term {
	for _, i := range path {
		t = t.L[i]
	}
	return t
}

// tree returns a random tree with at most so many levels. The operations 0, 1 and 2 have as many elements, 3 has any number of them up to three.
func tree(r *rand.Rand, levels, vars int) api.Term {
	if vars > 0 && r.Intn(3) == 0 {
		return v(r.Intn(vars))
	}
	if levels <= 1 {
		return zero()
	}
	n := r.Intn(4)
	t := op(n)
	if n == 3 {
		n = r.Intn(4)
	}
	for range n {
		t.L = append(t.L, tree(r, levels-1, vars))
	}
	return t
}

func trees(r *rand.Rand, many, levels, vars int) []api.Term {
	var l []api.Term
	for range many {
		l = append(l, tree(r, levels, vars))
	}
	return l
}

// memory is which memory of nodes has been met.
type memory map[*api.Term]bool

// isNew adds the memory of terms, and reports whether none of it was there before: not even what a list has behind its end.
func (m memory) isNew(l ...api.Term) bool {
	for _, t := range l {
		all := t.L[:cap(t.L)]
		for i := range all {
			if m[&all[i]] {
				return false
			}
			m[&all[i]] = true
		}
		if !m.isNew(t.L...) {
			return false
		}
	}
	return true
}

// add adds the memory of arguments, which may share some of it.
func (m memory) add(l ...api.Term) {
	for _, t := range l {
		for i := range t.L {
			m[&t.L[i]] = true
		}
		m.add(t.L...)
	}
}

// examples are trees of many forms.
func examples() []api.Term {
	r := rand.New(rand.NewSource(1))
	l := []api.Term{zero(), v(0), v(7), succ(v(1)), plus(v(0), succ(zero())), plus(v(3), v(1)), same(v(0), v(1)), bush(40), chain(30, v(2))}
	return append(l, trees(r, 60, 5, 4)...)
}

// untouched checks that a call changes none of the terms, and that what it returns is memory of its own.
func untouched(t *testing.T, what string, args []api.Term, call func(l []api.Term) []api.Term) {
	t.Helper()
	before := copies(args)
	got := call(args)
	if !equals(args, before) {
		t.Errorf("%s changed %v to %v", what, before, args)
	}
	m := memory{}
	m.add(args...)
	if !m.isNew(got...) {
		t.Errorf("%s of %v returns memory that is no new one: %v", what, args, got)
	}
}

// P4.3, P4.4: arguments stay as they are, and what is returned shares no memory with them, nor with itself.
func TestMemory(t *testing.T) {
	l := examples()
	shared := plus(succ(zero()), v(1))
	for i, x := range l {
		y := l[(i+7)%len(l)]
		untouched(t, "At", []api.Term{x}, func(l []api.Term) []api.Term {
			var out []api.Term
			for _, p := range places(l[0]) {
				u, _ := sig.At(l[0], p)
				out = append(out, u)
			}
			return out
		})
		untouched(t, "Put", []api.Term{x, y}, func(l []api.Term) []api.Term {
			var out []api.Term
			for _, p := range places(l[0]) {
				u, _ := sig.Put(l[0], p, l[1])
				out = append(out, u)
			}
			return out
		})
		untouched(t, "Subst", []api.Term{x, shared, y, shared, shared, y, y, y, y}, func(l []api.Term) []api.Term {
			u, _ := sig.Subst(l[0], l[1:])
			return []api.Term{u}
		})
		untouched(t, "Shift", []api.Term{x}, func(l []api.Term) []api.Term {
			u, _ := sig.Shift(l[0], 1, 2)
			w, _ := sig.Shift(l[0], 0, 0)
			return []api.Term{u, w}
		})
		untouched(t, "Normal", []api.Term{x, y, shared, shared}, func(l []api.Term) []api.Term {
			out, _, _ := sig.Normal(l)
			return out
		})
		untouched(t, "Match", []api.Term{op(9, v(0), v(2), v(3), v(4)), op(9, x, y, shared, shared)}, func(l []api.Term) []api.Term {
			out, _, _ := sig.Match(l[0], l[1])
			return out
		})
		untouched(t, "Unify", []api.Term{op(9, v(10), v(12), v(13), v(14), v(15)), op(9, x, y, shared, shared, plus(v(13), v(14)))}, func(l []api.Term) []api.Term {
			out, _, _ := sig.Unify(l[0], l[1])
			return out
		})
	}
}
