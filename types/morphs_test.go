package types_test

import (
	"slices"
	"testing"

	"madrigal/api"
	"madrigal/sig"
	"madrigal/types"
)

// parity returns the morphism of logic to a signature with one sort, where 0 and true are 0, s is not, and all else is xor.
func parity() (api.Sig, api.Morph) {
	return signature("other bit", o("1", 1), o("not", 1, 1), o("xor", 1, 1, 1), o("0", 1), o("0", 0)), api.Morph{Sorts: []int{1, 1}, Ops: []int{3, 1, 2, 2, 3, 2}}
}

// badMorphs are no morphisms of logic to parity, each for one reason.
func badMorphs() []api.Morph {
	var l []api.Morph
	for _, change := range []func(m *api.Morph){
		func(m *api.Morph) { *m = api.Morph{} }, func(m *api.Morph) { m.Sorts = m.Sorts[:1] }, func(m *api.Morph) { m.Sorts = append(m.Sorts, 1) }, func(m *api.Morph) { m.Ops = m.Ops[:5] }, func(m *api.Morph) { m.Ops = append(m.Ops, 3) },
		func(m *api.Morph) { m.Sorts[0] = 2 }, func(m *api.Morph) { m.Sorts[1] = -1 }, func(m *api.Morph) { m.Sorts[1] = 1 << 62 }, func(m *api.Morph) { m.Sorts[1] = 0 }, func(m *api.Morph) { m.Sorts = []int{0, 0} },
		func(m *api.Morph) { m.Ops[0] = 5 }, func(m *api.Morph) { m.Ops[5] = -1 }, func(m *api.Morph) { m.Ops[5] = 1 << 62 }, func(m *api.Morph) { m.Ops[0] = 1 }, func(m *api.Morph) { m.Ops[0] = 4 }, func(m *api.Morph) { m.Ops[1] = 2 }, func(m *api.Morph) { m.Ops[1] = 0 }, func(m *api.Morph) { m.Ops[5] = 1 },
	} {
		_, m := parity()
		change(&m)
		l = append(l, m)
	}
	return l
}

// P5.2: what is a morphism; names do not matter.
func TestCheckMorph(t *testing.T) {
	from := logic()
	to, m := parity()
	for i, x := range []struct {
		from, to api.Sig
		m        api.Morph
	}{
		{from, to, m}, {}, {api.Sig{}, to, api.Morph{}}, {signature("a b", o("f", 0, 1, 1)), signature("c", o("g", 0, 0, 0)), api.Morph{Sorts: []int{0, 0}, Ops: []int{0}}},
		{signature("a b", o("f", 0, 1, 1), o("g", 0, 1, 1)), signature("c d", o("k", 0, 0, 0), o("h", 1, 0, 0)), api.Morph{Sorts: []int{1, 0}, Ops: []int{1, 1}}},
	} {
		if err := types.CheckMorph(x.from, x.to, x.m); err != api.OK {
			t.Errorf("CheckMorph %d: error %d", i, err)
		}
	}
	for i, x := range badMorphs() {
		if err := types.CheckMorph(from, to, x); err != api.ErrMorph {
			t.Errorf("CheckMorph of %d: error %d", i, err)
		}
	}
	swapped := signature("a b", o("f", 0, 1, 0), o("f", 1, 0, 0), o("f", 0, 1, 1))
	for i, n := range []int{1, 2} {
		x := api.Morph{Sorts: []int{0, 1}, Ops: []int{0, 1, 2}}
		x.Ops[0] = n
		if err := types.CheckMorph(swapped, swapped, x); err != api.ErrMorph {
			t.Errorf("CheckMorph of swapped sorts %d: error %d", i, err)
		}
	}
	for _, n := range []int{-1, 1, 1 << 62} { // of sorts that no operation names
		if err := types.CheckMorph(signature("a b"), signature("c"), api.Morph{Sorts: []int{0, n}}); err != api.ErrMorph {
			t.Errorf("CheckMorph of a sort to %d: error %d", n, err)
		}
	}
	for i, s := range badSignatures() {
		if types.CheckMorph(s, to, m) != api.ErrType || types.CheckMorph(from, s, m) != api.ErrType || types.CheckMorph(from, s, api.Morph{}) != api.ErrType {
			t.Errorf("CheckMorph of the signature %d", i)
		}
	}
}

// P5.2: the morphism of a signature to itself, and one behind another.
func TestIdentityCompose(t *testing.T) {
	from := logic()
	to, m := parity()
	one, err := types.Identity(from)
	if err != api.OK || !same(one, api.Morph{Sorts: []int{0, 1}, Ops: []int{0, 1, 2, 3, 4, 5}}) {
		t.Errorf("Identity: %v, error %d", one, err)
	}
	if none, err := types.Identity(api.Sig{}); err != api.OK || !same(none, api.Morph{}) {
		t.Errorf("Identity of nothing: %v, error %d", none, err)
	}
	last := signature("x y z", o("a", 2), o("b", 2, 2), o("c", 2, 2, 2), o("d", 0))
	n := api.Morph{Sorts: []int{0, 2}, Ops: []int{0, 1, 2, 0, 3}}
	if got, err := types.Compose(from, to, last, m, n); err != api.OK || !same(got, api.Morph{Sorts: []int{2, 2}, Ops: []int{0, 1, 2, 2, 0, 2}}) {
		t.Errorf("Compose: %v, error %d", got, err)
	}
	refuse := func(a, b, c api.Sig, m, n api.Morph, want api.Errno) {
		t.Helper()
		if got, err := types.Compose(a, b, c, m, n); err != want || !same(got, api.Morph{}) {
			t.Errorf("Compose: %v, error %d; want %d", got, err, want)
		}
	}
	for _, x := range badMorphs() {
		refuse(from, to, last, x, n, api.ErrMorph)
		refuse(from, from, to, one, x, api.ErrMorph)
	}
	refuse(from, to, last, n, m, api.ErrMorph)
	for _, s := range badSignatures() {
		if got, err := types.Identity(s); err != api.ErrType || !same(got, api.Morph{}) {
			t.Errorf("Identity(%v): %v, error %d", s, got, err)
		}
		refuse(s, to, last, m, n, api.ErrType)
		refuse(from, s, last, api.Morph{}, n, api.ErrType)
		refuse(from, to, s, m, n, api.ErrType)
		refuse(from, to, s, api.Morph{}, n, api.ErrType)
	}
}

// P5.2: images of terms and of equations.
func TestImage(t *testing.T) {
	from := logic()
	to, m := parity()
	terms := map[*api.Term]api.Term{}
	put := func(x, want api.Term) { terms[&x] = want }
	put(v(0), v(0))
	put(v(63), v(63))
	put(zero(), op(3))
	put(is(succ(v(1)), plus(v(0), zero())), op(2, op(1, v(1)), op(2, v(0), op(3))))
	put(op(5, is(v(63), v(63)), v(7)), op(2, op(2, v(63), v(63)), v(7)))
	put(chain(200, 1, v(9)), chain(200, 1, v(9)))
	for x, want := range terms {
		if got, err := types.Image(from, to, m, *x); err != api.OK || !same(got, want) {
			t.Errorf("Image(%v): %v, error %d; want %v", *x, got, err, want)
		}
	}
	for i, x := range otherTerms() {
		if _, err := types.Image(from, to, m, x); err != api.OK {
			t.Errorf("Image of another term %d: error %d", i, err)
		}
	}
	bad := append(noTerms(), v(64), succ(v(64)), succ(v(4000)), plus(v(0), op(2, v(1), v(64))), op(5, is(v(0), v(0)), v(0)), op(5, v(1), is(zero(), v(1))), is(v(0), succ(is(v(0), v(0)))))
	for i, x := range bad { // some are far too great to be told
		if got, err := types.Image(from, to, m, x); err != api.ErrTerm || !same(got, api.Term{}) {
			t.Errorf("Image of what is no term, %d: error %d", i, err)
		}
	}
	e := eq([]int{1, 0, 1}, op(5, v(2), is(v(1), zero())), v(2), v(1), zero(), yes(), v(2))
	want := eq([]int{1, 1, 1}, op(2, v(2), op(2, v(1), op(3))), v(2), v(1), op(3), op(3), v(2))
	if got, err := types.ImageEqn(from, to, m, e); err != api.OK || !same(got, want) {
		t.Errorf("ImageEqn: %v, error %d; want %v", got, err, want)
	}
	for i, e := range goodEqns() {
		if got, err := types.ImageEqn(from, to, m, e); err != api.OK || types.Check(api.Type{Sig: to, Eqns: []api.Eqn{got}}) != api.OK {
			t.Errorf("ImageEqn of %d: %v, error %d", i, got, err)
		}
	}
	for i, e := range badEqns() {
		if got, err := types.ImageEqn(from, to, m, e); err != api.ErrType || !same(got, api.Eqn{}) {
			t.Errorf("ImageEqn of %d: %v, error %d", i, got, err)
		}
	}
	if got, err := types.Image(api.Sig{}, api.Sig{}, api.Morph{}, v(5)); err != api.OK || !same(got, v(5)) {
		t.Errorf("Image of a variable alone: %v, error %d", got, err)
	}
}

// P5.2: the errors of signatures come first, then that of the morphism.
func TestImageErrors(t *testing.T) {
	from := logic()
	to, m := parity()
	refuse := func(from, to api.Sig, m api.Morph, x api.Term, e api.Eqn, want api.Errno) {
		t.Helper()
		got, err := types.Image(from, to, m, x)
		image, wrong := types.ImageEqn(from, to, m, e)
		if err != want || wrong != want || !same(got, api.Term{}) || !same(image, api.Eqn{}) {
			t.Errorf("%v, error %d; %v, error %d; want %d", got, err, image, wrong, want)
		}
	}
	for _, x := range []api.Term{v(0), zero(), {}} {
		for _, e := range []api.Eqn{{}, goodEqns()[0]} {
			for _, s := range badSignatures() {
				refuse(s, to, m, x, e, api.ErrType)
				refuse(from, s, m, x, e, api.ErrType)
				refuse(from, s, api.Morph{}, x, e, api.ErrType)
			}
			for _, n := range badMorphs() {
				refuse(from, to, n, x, e, api.ErrMorph)
			}
		}
	}
}

// put returns a term with terms in the places of its variables.
func put(x api.Term, l []api.Term) api.Term {
	return changed(x, func(n int) api.Term { return l[n] })
}

// P5.7: sorts of images, images of terms put in, Compose and Identity.
func TestImages(t *testing.T) {
	looked := 0
	for seed := range int64(500) {
		g := newMaker(seed)
		a, b, c := g.data(), g.data(), g.data()
		ab, m, _, _ := types.Sum(a, b)
		_, _, n, _ := types.Sum(c, ab)
		abc, _, n, err := types.Sum(c, ab)
		both, wrong := types.Compose(a.Sig, ab.Sig, abc.Sig, m, n)
		one, no := types.Identity(a.Sig)
		if err != api.OK || wrong != api.OK || no != api.OK {
			t.Fatalf("errors %d, %d, %d", err, wrong, no)
		}
		for _, e := range a.Eqns {
			looked++
			checkImages(t, g, a.Sig, ab.Sig, abc.Sig, m, n, both, one, e)
		}
	}
	if looked < 300 {
		t.Errorf("%d equations", looked)
	}
}

func checkImages(t *testing.T, g maker, a, b, c api.Sig, m, n, both, one api.Morph, e api.Eqn) {
	t.Helper()
	x, err := types.Image(a, b, m, e.A)
	if err != api.OK {
		t.Fatalf("Image(%v): error %d", e.A, err)
	}
	was, _ := sig.Sort(a, e.Vars, e.A)
	var vars []int
	for _, s := range e.Vars {
		vars = append(vars, m.Sorts[s])
	}
	if is, err := sig.Sort(b, vars, x); err != api.OK || is != m.Sorts[was] {
		t.Errorf("the sort of the image of %v: %d, error %d", e.A, is, err)
	}
	var l, images []api.Term
	for _, s := range e.Vars {
		y, ok := g.term(a, e.Vars, g.r.Perm(len(e.Vars)), s, 3)
		if !ok {
			return
		}
		z, _ := types.Image(a, b, m, y)
		l, images = append(l, y), append(images, z)
	}
	if y, err := types.Image(a, b, m, put(e.A, l)); err != api.OK || !same(y, put(x, images)) {
		t.Errorf("the image of %v with %v: %v, error %d", e.A, l, y, err)
	}
	y, _ := types.Image(b, c, n, x)
	if z, err := types.Image(a, c, both, e.A); err != api.OK || !same(y, z) {
		t.Errorf("Image of %v by Compose: %v, error %d; one after the other: %v", e.A, z, err, y)
	}
	if y, err := types.Image(a, a, one, e.A); err != api.OK || !same(y, e.A) {
		t.Errorf("Image of %v by Identity: %v, error %d", e.A, y, err)
	}
	f, _ := types.ImageEqn(a, b, m, e)
	h, _ := types.ImageEqn(b, c, n, f)
	if k, err := types.ImageEqn(a, c, both, e); err != api.OK || !same(h, k) {
		t.Errorf("ImageEqn of %v by Compose: %v, error %d; one after the other: %v", e, k, err, h)
	}
	if k, err := types.ImageEqn(a, a, one, e); err != api.OK || !same(k, e) {
		t.Errorf("ImageEqn of %v by Identity: %v, error %d", e, k, err)
	}
	if !same(f.A, x) || !slices.Equal(f.Vars, vars) {
		t.Errorf("ImageEqn(%v): %v", e, f)
	}
}
