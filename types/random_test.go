package types_test

import (
	"slices"
	"testing"

	"madrigal/api"
	"madrigal/types"
)

// refused checks that all functions of lists of modules return an error, and nothing else.
func refused(t *testing.T, l []api.Module, k int, want api.Errno) {
	t.Helper()
	f, err := types.Flatten(l, k)
	m, wrong := types.Into(l, k, 0)
	d, no := types.Duties(l, k)
	c, bad := types.Closed(l, k)
	if err != want || wrong != want || no != want || bad != want || !same(f, api.Flat{}) || !same(m, api.Morph{}) || len(d) != 0 || !same(c, api.Type{}) {
		t.Errorf("of %v, %d: errors %d, %d, %d, %d; want %d; %v, %v, %v, %v", l, k, err, wrong, no, bad, want, f, m, d, c)
	}
}

// P5.4, P5.5: modules that were made by chance, and ones with small changes, against what the chapter says by names.
func TestRandomModules(t *testing.T) {
	met := map[api.Errno]int{}
	kinds := map[int]int{}
	for seed := range int64(400) {
		g := newMaker(seed)
		var l []api.Module
		for range 25 {
			m := g.module(l, moduleName(len(l)))
			for g.once(3) {
				m = g.flawed(m, len(l))
			}
			all := append(slices.Clip(l), m)
			want := verdict(t, all)
			met[want]++
			if err := types.CheckModules(all); err != want {
				t.Fatalf("CheckModules(%v): error %d; want %d", all, err, want)
			}
			if want != api.OK {
				refused(t, all, 0, want)
				continue
			}
			l = all
			kinds[m.Kind]++
			checkModule(t, l, len(l)-1)
			if len(l) == 9 {
				break
			}
		}
	}
	if met[api.OK] < 1000 || met[api.ErrModule] < 1000 || kinds[api.MoRename] < 100 || kinds[api.MoActual] < 300 {
		t.Errorf("too few modules of a kind: %v, %v", met, kinds)
	}
}
