package sig_test

import (
	"math/rand"
	"slices"
	"testing"

	"madrigal/api"
	"madrigal/sig"
)

// P4.3: all places, in their order.
func TestPaths(t *testing.T) {
	l := append(examples(), bush(2000), chain(200, zero()))
	for _, x := range l {
		got, err := sig.Paths(x)
		if err != api.OK || !slices.EqualFunc(got, places(x), slices.Equal[[]int]) {
			t.Errorf("Paths(%v): %v, error %d", x, got, err)
		}
	}
	if got, err := sig.Paths(plus(v(0), succ(zero()))); err != api.OK || !slices.EqualFunc(got, [][]int{{}, {0}, {1}, {1, 0}}, slices.Equal[[]int]) {
		t.Errorf("Paths: %v, error %d", got, err)
	}
	for i, x := range noTrees() {
		if got, err := sig.Paths(x); len(got) != 0 || err != api.ErrTerm {
			t.Errorf("Paths of %d: %v, error %d", i, got, err)
		}
	}
}

// P4.3: no two places share memory, not even what they have behind their ends.
func TestPathsMemory(t *testing.T) {
	for _, x := range append(examples(), bush(600)) {
		l, _ := sig.Paths(x)
		met := map[*int]bool{}
		for _, p := range l {
			p = p[:cap(p)]
			for i := range p {
				if met[&p[i]] {
					t.Fatalf("Paths(%v): places share memory", x)
				}
				met[&p[i]] = true
			}
		}
	}
}

// noPlaces are lists that are no places of a tree.
func noPlaces(t api.Term) [][]int {
	l := [][]int{{-1}, {8}, {1 << 62}, {-1 << 63}, make([]int, 1000)}
	for _, p := range places(t) {
		at := at(t, p)
		for _, i := range []int{-1, len(at.L), len(at.L) + 1} {
			l = append(l, append(slices.Clone(p), i), append(slices.Clone(p), i, 0))
		}
	}
	return l
}

// P4.3: what stands at places.
func TestAt(t *testing.T) {
	for _, x := range append(examples(), chain(200, v(1)), bush(300)) {
		for _, p := range places(x) {
			if got, err := sig.At(x, p); err != api.OK || !equal(got, at(x, p)) {
				t.Errorf("At(%v, %v): %v, error %d", x, p, got, err)
			}
		}
	}
	for _, x := range examples() {
		for _, p := range noPlaces(x) {
			if got, err := sig.At(x, p); err != api.ErrPath || !equal(got, api.Term{}) {
				t.Errorf("At(%v, %v): %v, error %d", x, p, got, err)
			}
			if got, err := sig.Put(x, p, zero()); err != api.ErrPath || !equal(got, api.Term{}) {
				t.Errorf("Put(%v, %v): %v, error %d", x, p, got, err)
			}
		}
	}
	for i, x := range noTrees() {
		for _, p := range [][]int{nil, {0}, {-1}} {
			if got, err := sig.At(x, p); err != api.ErrTerm || !equal(got, api.Term{}) {
				t.Errorf("At of %d: %v, error %d", i, got, err)
			}
			if got, err := sig.Put(x, p, zero()); err != api.ErrTerm || !equal(got, api.Term{}) {
				t.Errorf("Put in %d: %v, error %d", i, got, err)
			}
			if got, err := sig.Put(succ(zero()), p, x); err != api.ErrTerm || !equal(got, api.Term{}) {
				t.Errorf("Put of %d at %v: %v, error %d", i, p, got, err)
			}
		}
	}
}

// begins reports whether a place is within another one, or that one itself.
func begins(with, p []int) bool { return len(with) <= len(p) && slices.Equal(with, p[:len(with)]) }

// P4.3, P4.7: what is put stands there, and nothing else has changed; what stood there, put back, gives the tree that there was.
func TestPut(t *testing.T) {
	if got, err := sig.Put(plus(v(0), succ(zero())), []int{1}, v(7)); err != api.OK || !equal(got, plus(v(0), v(7))) {
		t.Errorf("Put: %v, error %d", got, err)
	}
	r := rand.New(rand.NewSource(5))
	for _, x := range examples() {
		for _, p := range places(x) {
			u := tree(r, 4, 3)
			got, err := sig.Put(x, p, u)
			if err != api.OK || !equal(at(got, p), u) {
				t.Fatalf("Put(%v, %v, %v): %v, error %d", x, p, u, got, err)
			}
			for _, q := range places(x) {
				was := at(x, q)
				switch {
				case begins(p, q):
				case !begins(q, p) && !equal(at(got, q), was), begins(q, p) && !slices.Equal(flat(at(got, q))[:3], flat(was)[:3]):
					t.Errorf("Put(%v, %v, %v) changed what is at %v: %v", x, p, u, q, got)
				}
			}
			was, _ := sig.At(x, p)
			if back, err := sig.Put(got, p, was); err != api.OK || !equal(back, x) {
				t.Errorf("Put(%v, %v, %v), and back: %v, error %d", x, p, u, back, err)
			}
		}
	}
}

// P4.3: a tree that becomes too great.
func TestPutLimits(t *testing.T) {
	for i, x := range []struct {
		t    api.Term
		path []int
		u    api.Term
		want api.Errno
	}{
		{plus(zero(), bush(999)), []int{0}, bush(1000), api.OK}, {plus(zero(), bush(999)), []int{0}, bush(1001), api.ErrLimit}, {bush(2000), []int{7, 7, 7}, zero(), api.OK}, {bush(2000), []int{}, bush(2000), api.OK}, {bush(2000), []int{0}, bush(2000), api.ErrLimit},
		{chain(101, v(0)), make([]int, 100), chain(100, zero()), api.OK}, {chain(101, v(0)), make([]int, 100), chain(101, zero()), api.ErrLimit}, {chain(200, v(0)), make([]int, 199), succ(zero()), api.ErrLimit}, {chain(200, v(0)), make([]int, 199), v(1), api.OK}, {chain(200, v(0)), nil, chain(200, v(2)), api.OK},
	} {
		got, err := sig.Put(x.t, x.path, x.u)
		if err != x.want || err == api.OK && sig.Tree(got) != api.OK || err != api.OK && !equal(got, api.Term{}) {
			t.Errorf("Put %d: error %d; want %d", i, err, x.want)
		}
	}
}
