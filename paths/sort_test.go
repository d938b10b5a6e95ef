package paths_test

import (
	"slices"
	"testing"

	"madrigal/api"
	"madrigal/paths"
)

// sorted is Sort by the chapter's words.
func (w words) sorted(l []api.Term) []api.Term {
	less := make([][]int, len(l))
	var left []int
	for i, x := range l {
		left = append(left, i)
		for j, y := range l {
			if w.greater(x, y) {
				less[i] = append(less[i], j)
			}
		}
	}
	var out []api.Term
	for len(left) > 0 {
		i := slices.IndexFunc(left, func(n int) bool {
			return !slices.ContainsFunc(left, func(m int) bool { return slices.Contains(less[n], m) })
		})
		if i < 0 {
			return nil
		}
		out = append(out, l[left[i]])
		left = slices.Delete(left, i, i+1)
	}
	return out
}

// sort is Sort of what has to be terms.
func sort(t *testing.T, s api.Sig, o api.Order, l []api.Term) []api.Term {
	t.Helper()
	out, err := paths.Sort(s, o, l)
	if err != api.OK {
		t.Fatalf("Sort of %d terms: error %d", len(l), err)
	}
	return out
}

// P6.4: lists of terms in the order in which they are taken.
func TestSort(t *testing.T) {
	s := nat().Sig
	left, bags := order(1, 0, 0, 1), mixed(0, 0, 1, 1, 1, 3)
	x, y, z := v(0), v(1), zero()
	for i, c := range []struct {
		o       api.Order
		l, want []api.Term
	}{
		{left, nil, nil}, {left, []api.Term{x}, []api.Term{x}}, {left, []api.Term{x, x}, []api.Term{x, x}}, {left, []api.Term{y, x}, []api.Term{y, x}}, {left, []api.Term{succ(z), x, z, add(z, z)}, []api.Term{x, z, succ(z), add(z, z)}}, {left, []api.Term{add(z, z), succ(z), z}, []api.Term{z, succ(z), add(z, z)}}, {left, []api.Term{succ(z), z, succ(z), z}, []api.Term{z, z, succ(z), succ(z)}},
		// The first one that can be taken: behind each one, from the start again.
		{left, []api.Term{succ(x), y, x, z}, []api.Term{y, x, z, succ(x)}}, {order(1, 1, 0, 2), []api.Term{succ(x), y, x, z}, []api.Term{y, x, succ(x), z}}, {left, []api.Term{add(x, y), succ(y), succ(x), y, x}, []api.Term{y, succ(y), x, succ(x), add(x, y)}}, {left, []api.Term{succ(succ(x)), succ(y), succ(x), z, y, x}, []api.Term{z, y, succ(y), x, succ(x), succ(succ(x))}},
		// What is equal stays as it stands there.
		{bags, []api.Term{add(y, x), add(x, y), x, add(y, x)}, []api.Term{x, add(y, x), add(x, y), add(y, x)}}, {left, []api.Term{add(y, x), add(x, y), x, add(y, x)}, []api.Term{x, add(y, x), add(x, y), add(y, x)}}, {bags, []api.Term{add(succ(x), y), add(y, succ(x)), add(y, x), y}, []api.Term{y, add(y, x), add(succ(x), y), add(y, succ(x))}},
	} {
		if got := sort(t, s, c.o, c.l); !same(got, c.want) || !same(got, (words{c.o}).sorted(c.l)) {
			t.Errorf("%d: Sort(%v): %v; want %v", i, c.l, got, c.want)
		}
	}
}

// P6.4, P6.12: lists of terms that were made by chance; none stands behind one that is greater; what is sorted stays.
func TestSortByWords(t *testing.T) {
	s, moved := some(), 0
	each(s, 2000, func(g maker, o api.Order) {
		w := words{o}
		for range 5 {
			var l []api.Term
			for range g.r.Intn(9) {
				a, b := g.pair(s, 3)
				l = append(l, a, b)
				if g.once(3) {
					l = append(l, copied(a), g.like(o, s, b))
				}
			}
			g.r.Shuffle(len(l), func(i, j int) { l[i], l[j] = l[j], l[i] })
			got := sort(t, s, o, l)
			if !same(got, w.sorted(l)) {
				t.Fatalf("by %v, Sort(%v): %v", o, l, got)
			}
			if !same(got, l) {
				moved++
			}
			for i, x := range got {
				for _, y := range got[i+1:] {
					if greater(t, s, o, x, y) {
						t.Fatalf("by %v, Sort(%v): %v stands ahead of %v", o, l, x, y)
					}
				}
			}
			left := copied(l)
			for _, x := range got {
				i := slices.IndexFunc(left, func(y api.Term) bool { return same(x, y) })
				if i < 0 {
					t.Fatalf("by %v, Sort(%v): %v is none of them", o, l, x)
				}
				left = slices.Delete(left, i, i+1)
			}
			if len(left) > 0 || !same(sort(t, s, o, got), got) {
				t.Fatalf("by %v, Sort(%v): %v are left; sorted again it is not the same", o, l, left)
			}
			untouched(t, "Sort", func() []any {
				l, _ := paths.Sort(s, o, l)
				return []any{l}
			}, s, o, l)
		}
	})
	if moved < 100 {
		t.Errorf("%d lists were not sorted", moved)
	}
}

// P6.4, P6.12: as many terms as there can be, and more; what is wrong with terms comes first.
func TestSortLimits(t *testing.T) {
	s, o := nat().Sig, order(1, 0, 1, 2)
	var l []api.Term
	for i := range 1000 {
		l = append(l, add(times(1, (i*7)%100, zero()), times(1, i%150, v(i%3))))
	}
	got := sort(t, s, o, l)
	if len(got) != 1000 {
		t.Fatalf("Sort of 1000 terms: %d", len(got))
	}
	for i, x := range got[1:] {
		if greater(t, s, o, got[i], x) {
			t.Fatalf("Sort of 1000 terms: that at %d is greater than the next one", i)
		}
	}
	if !same(sort(t, s, o, got), got) {
		t.Error("Sort of 1000 sorted terms is not the same")
	}
	alike := sort(t, s, o, slices.Repeat([]api.Term{times(1, 199, v(7))}, 1000))
	if len(alike) != 1000 || !same(alike[999], times(1, 199, v(7))) {
		t.Errorf("Sort of 1000 times the same term: %d", len(alike))
	}
	var chains, want []api.Term
	var left []int
	long := func(i int) int { return (i * 5) % 9 }
	for i := range 1000 {
		left = append(left, i)
		chains = append(chains, times(1, long(i), v(i%300)))
	}
	for len(left) > 0 { // what is shorter, with the same variable, is less
		k := slices.IndexFunc(left, func(i int) bool {
			return !slices.ContainsFunc(left, func(j int) bool { return i%300 == j%300 && long(j) < long(i) })
		})
		want = append(want, chains[left[k]])
		left = slices.Delete(left, k, k+1)
	}
	if got := sort(t, s, o, chains); !same(got, want) {
		t.Error("Sort of 1000 chains with 300 variables")
	}
	more := append(slices.Clone(l), zero())
	bad := append(slices.Clone(more), succ(op(3)))
	for i, c := range []struct {
		o    api.Order
		l    []api.Term
		want api.Errno
	}{
		{o, more, api.ErrLimit}, {o, slices.Repeat([]api.Term{v(0)}, 1001), api.ErrLimit}, {o, slices.Repeat([]api.Term{v(0)}, 5000), api.ErrLimit}, {o, bad, api.ErrTerm}, {o, []api.Term{zero(), succ(op(3)), zero()}, api.ErrTerm}, {order(1, 0, 1), bad, api.ErrOrder}, {order(1, 0, 1), more, api.ErrOrder}, {order(1, 0, 1), nil, api.ErrOrder},
	} {
		if out, err := paths.Sort(s, c.o, c.l); err != c.want || len(out) != 0 {
			t.Errorf("%d: Sort: %d terms, error %d; want %d", i, len(out), err, c.want)
		}
	}
	if out, err := paths.Sort(api.Sig{Ops: s.Ops}, o, more); err != api.ErrSig || len(out) != 0 {
		t.Errorf("Sort of no signature: %d terms, error %d", len(out), err)
	}
}
