package sig_test

import (
	"math/rand"
	"slices"
	"testing"

	"madrigal/api"
	"madrigal/sig"
)

// P4.1: sorts of terms.
func TestSort(t *testing.T) {
	s := numbers()
	most := []int{}
	for i := range 100 {
		most = append(most, i%2)
	}
	for _, x := range []struct {
		vars []int
		t    api.Term
		want int
	}{
		{[]int{nat}, plus(v(0), succ(zero())), nat}, {nil, zero(), nat}, {[]int{boul}, v(0), boul}, {[]int{nat, nat}, same(v(0), v(1)), boul}, {[]int{boul, nat}, same(v(1), v(1)), boul},
		{most, v(99), boul}, {most, v(98), nat}, {[]int{boul}, zero(), nat}, {nil, chain(200, zero()), nat},
	} {
		if n, err := sig.Sort(s, x.vars, x.t); n != x.want || err != api.OK {
			t.Errorf("Sort(%v, %v): %d, error %d; want %d", x.vars, x.t, n, err, x.want)
		}
	}
	for _, x := range []struct {
		vars []int
		t    api.Term
	}{
		{[]int{nat, boul}, same(v(0), v(1))}, {[]int{boul, nat}, same(v(0), v(1))}, {nil, v(0)}, {[]int{nat}, v(1)}, {[]int{nat}, succ(v(1))}, {nil, op(4)}, {nil, succ(op(4))}, {[]int{nat}, op(1 << 62)}, {[]int{nat}, v(1<<63 - 1)},
		{nil, op(1)}, {nil, op(0, zero())}, {nil, op(2, zero())}, {nil, op(2, zero(), zero(), zero())}, {nil, succ(same(zero(), zero()))}, {nil, same(zero(), same(zero(), zero()))}, {nil, same(same(zero(), zero()), zero())}, {nil, succ(plus(zero(), succ(same(zero(), zero()))))},
	} {
		if n, err := sig.Sort(s, x.vars, x.t); n != 0 || err != api.ErrTerm {
			t.Errorf("Sort(%v, %v): %d, error %d; want %d", x.vars, x.t, n, err, api.ErrTerm)
		}
	}
	for _, x := range noTrees() {
		if n, err := sig.Sort(s, []int{nat}, x); n != 0 || err != api.ErrTerm {
			t.Errorf("Sort of no tree: %d, error %d", n, err)
		}
	}
}

// P4.1: what is looked at first, and next.
func TestSortErrors(t *testing.T) {
	for _, bad := range noSignatures() {
		if n, err := sig.Sort(bad, []int{-1}, api.Term{}); n != 0 || err != api.ErrSig {
			t.Errorf("Sort over %v: %d, error %d", bad, n, err)
		}
		if l, err := sig.Infer(bad, []api.Term{{}}, nil); len(l) != 0 || err != api.ErrSig {
			t.Errorf("Infer over %v: %v, error %d", bad, l, err)
		}
	}
	s := numbers()
	for _, vars := range [][]int{{2}, {-1}, {nat, boul, 2}, {-1, nat}, {1 << 62}} {
		for _, x := range []api.Term{zero(), {}} {
			if n, err := sig.Sort(s, vars, x); n != 0 || err != api.ErrArg {
				t.Errorf("Sort(%v, %v): %d, error %d", vars, x, n, err)
			}
		}
		l := make([]api.Term, len(vars))
		if got, err := sig.Infer(s, l, vars); len(got) != 0 || err != api.ErrArg {
			t.Errorf("Infer(%v, %v): %v, error %d", l, vars, got, err)
		}
	}
	for _, sorts := range [][]int{nil, {nat}, {nat, nat, nat}} {
		for _, x := range []api.Term{zero(), {}} {
			if got, err := sig.Infer(s, []api.Term{zero(), x}, sorts); len(got) != 0 || err != api.ErrArg {
				t.Errorf("Infer of two as %v: %v, error %d", sorts, got, err)
			}
		}
	}
}

// P4.1: sorts of variables.
func TestInfer(t *testing.T) {
	s := numbers()
	for _, x := range []struct {
		l           []api.Term
		sorts, want []int
	}{
		{nil, nil, nil}, {[]api.Term{zero()}, []int{nat}, nil}, {[]api.Term{plus(v(0), v(1))}, []int{nat}, []int{nat, nat}}, {[]api.Term{same(v(0), succ(v(0))), v(0)}, []int{boul, nat}, []int{nat}},
		{[]api.Term{v(3), v(1), v(3)}, []int{boul, nat, boul}, []int{-1, nat, -1, boul}}, {[]api.Term{same(zero(), v(2)), v(0)}, []int{boul, boul}, []int{boul, -1, nat}},
	} {
		if l, err := sig.Infer(s, x.l, x.sorts); !slices.Equal(l, x.want) || err != api.OK {
			t.Errorf("Infer(%v, %v): %v, error %d; want %v", x.l, x.sorts, l, err, x.want)
		}
	}
	if l, err := sig.Infer(s, []api.Term{v(3999)}, []int{boul}); len(l) != 4000 || l[3999] != boul || l[0] != -1 || l[3998] != -1 || err != api.OK {
		t.Errorf("Infer of the variable 3999: %d elements, error %d", len(l), err)
	}
	for _, x := range []struct {
		l     []api.Term
		sorts []int
	}{
		{[]api.Term{v(4000)}, []int{nat}}, {[]api.Term{succ(v(1<<63 - 1))}, []int{nat}}, {[]api.Term{zero()}, []int{boul}}, {[]api.Term{v(0), v(0)}, []int{boul, nat}}, {[]api.Term{v(0), succ(v(0))}, []int{boul, nat}}, {[]api.Term{succ(v(0)), v(0)}, []int{nat, boul}},
		{[]api.Term{op(4)}, []int{nat}}, {[]api.Term{op(1)}, []int{nat}}, {[]api.Term{op(0, v(0))}, []int{nat}}, {[]api.Term{plus(v(0), op(2, v(0)))}, []int{nat}}, {[]api.Term{succ(same(v(0), v(1)))}, []int{nat}}, {[]api.Term{plus(same(v(0), v(1)), v(0))}, []int{nat}}, {[]api.Term{v(0), same(v(1), v(2))}, []int{nat, nat}},
	} {
		if l, err := sig.Infer(s, x.l, x.sorts); len(l) != 0 || err != api.ErrTerm {
			t.Errorf("Infer(%v, %v): %v, error %d; want %d", x.l, x.sorts, l, err, api.ErrTerm)
		}
	}
	for _, x := range noTrees() {
		if l, err := sig.Infer(s, []api.Term{v(0), x}, []int{nat, nat}); len(l) != 0 || err != api.ErrTerm {
			t.Errorf("Infer of no tree: %v, error %d", l, err)
		}
	}
}

// three is a signature with three sorts, whose operations mix them.
func three() api.Sig {
	return api.Sig{Sorts: []string{"a", "b", "c"}, Ops: []api.Op{{Name: "0"}, {Name: "1", Args: []int{0}, Res: 1}, {Name: "2", Args: []int{1, 0}}, {Name: "3", Args: []int{2, 1, 0}, Res: 2}, {Name: "4", Res: 1}, {Name: "5", Args: []int{2}, Res: 2}, {Name: "6", Args: []int{2}}}}
}

// term returns a random term over three of a sort, but for a wrong node where wrong says.
func term(r *rand.Rand, sort int, vars []int, levels, wrong int) api.Term {
	s := three()
	if r.Intn(100) < wrong {
		sort = r.Intn(3)
	}
	for range 20 {
		if n := r.Intn(len(vars)); vars[n] == sort && (levels <= 1 || r.Intn(3) == 0) {
			return v(n)
		}
		n := r.Intn(len(s.Ops))
		o := s.Ops[n]
		if o.Res != sort || levels <= 1 && len(o.Args) > 0 {
			continue
		}
		t := op(n)
		for _, a := range o.Args {
			t.L = append(t.L, term(r, a, vars, levels-1, wrong))
		}
		return t
	}
	return v(r.Intn(len(vars)))
}

// has reports whether a term has a sort.
func has(s api.Sig, vars []int, t api.Term, sort int) bool {
	n, err := sig.Sort(s, vars, t)
	return err == api.OK && n == sort
}

// P4.9: a term with terms of the sorts of its variables put in has the sort that it had.
func TestSortOfInstances(t *testing.T) {
	r := rand.New(rand.NewSource(2))
	s := three()
	vars, others := []int{0, 1, 2, 1}, []int{2, 2, 0, 1, 0}
	for range 3000 {
		x := term(r, r.Intn(3), vars, 4, 0)
		n, err := sig.Sort(s, vars, x)
		var l []api.Term
		for _, sort := range vars {
			u := term(r, sort, others, 3, 0)
			if !has(s, others, u, sort) {
				u = v(slices.Index(others, sort))
			}
			l = append(l, u)
		}
		y, wrong := sig.Subst(x, l)
		if err == api.OK && (wrong != api.OK || !has(s, others, y, n)) {
			t.Errorf("%v has the sort %d, but not %v", x, n, y)
		}
	}
}

// P4.9: the sorts that are inferred are the only ones; where there are some, they are inferred. All ways to give sorts to variables are gone through.
func TestInferAgainstAll(t *testing.T) {
	r := rand.New(rand.NewSource(3))
	s := three()
	found := 0
	for range 3000 {
		vars := []int{r.Intn(3), r.Intn(3), r.Intn(3)}
		var l []api.Term
		var sorts []int
		for range 1 + r.Intn(3) {
			sorts = append(sorts, r.Intn(3))
			l = append(l, term(r, sorts[len(sorts)-1], vars, 3, 4))
		}
		got, err := sig.Infer(s, l, sorts)
		want := ways(s, l, sorts)
		if err == api.OK && (len(want) != 1 || !slices.Equal(want[0], got)) || err != api.OK && (len(want) > 0 || len(got) != 0 || err != api.ErrTerm) {
			t.Errorf("Infer(%v, %v): %v, error %d; all are %v", l, sorts, got, err, want)
		}
		found += len(want)
	}
	if found < 500 || found > 2700 {
		t.Errorf("%d of 3000 had sorts", found)
	}
}

// ways returns all sorts of the variables that occur, up to the variable 2, by which terms have sorts.
func ways(s api.Sig, l []api.Term, sorts []int) [][]int {
	var all [][]int
	vars := occurring(l...)
	for code := range 27 {
		way := []int{code % 3, code / 3 % 3, code / 9}
		isOne := true
		for i, x := range l {
			isOne = isOne && has(s, way, x, sorts[i])
		}
		for n := range way {
			if !slices.Contains(vars, n) {
				way[n] = -1
			}
		}
		way = way[:last(l...)+1]
		if isOne && !slices.ContainsFunc(all, func(x []int) bool { return slices.Equal(x, way) }) {
			all = append(all, way)
		}
	}
	return all
}
