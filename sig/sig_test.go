package sig_test

import (
	"slices"
	"strconv"
	"strings"
	"testing"

	"madrigal/api"
	"madrigal/sig"
)

// one is a signature of the sorts a and b with operations.
func one(ops ...api.Op) api.Sig { return api.Sig{Sorts: []string{"a", "b"}, Ops: ops} }

// many is a signature with so many sorts and operations.
func many(sorts, ops int) api.Sig {
	var s api.Sig
	for i := range sorts {
		s.Sorts = append(s.Sorts, "s"+strconv.Itoa(i))
	}
	for i := range ops {
		s.Ops = append(s.Ops, api.Op{Name: "o" + strconv.Itoa(i), Args: []int{0, sorts - 1}, Res: i % sorts})
	}
	return s
}

// P4.1: what is a signature.
func TestSignatures(t *testing.T) {
	long := strings.Repeat("a", 32)
	good := []api.Sig{
		{}, numbers(), many(64, 256), many(1, 256), many(64, 0), {Sorts: []string{long, "a", "A", "0", "+"}},
		one(api.Op{Name: long}, api.Op{Name: strings.Repeat("_", 8) + "a", Args: make([]int, 8)}, api.Op{Name: "f", Args: make([]int, 8)}),
		one(api.Op{Name: "_a", Args: []int{1}}, api.Op{Name: "a_", Args: []int{1}}, api.Op{Name: "_a_", Args: []int{0, 1}}, api.Op{Name: "a__", Args: []int{1, 1}}, api.Op{Name: "if_then_else_", Args: []int{0, 1, 1}}),
		one(api.Op{Name: "f"}, api.Op{Name: "f", Args: []int{0}}, api.Op{Name: "f", Args: []int{0, 0}}, api.Op{Name: "f", Args: []int{0, 1}}, api.Op{Name: "f", Args: []int{1, 0}}, api.Op{Name: "f", Res: 1}, api.Op{Name: "f", Args: []int{0}, Res: 1}),
		one(api.Op{Name: "a"}, api.Op{Name: "b", Res: 1}, api.Op{Name: "g"}, api.Op{Name: "_g", Args: []int{0}}),
	}
	for c := 33; c <= 126; c++ {
		if !strings.ContainsRune("(),_", rune(c)) {
			good = append(good, api.Sig{Sorts: []string{"x" + string(rune(c)), string(rune(c))}, Ops: []api.Op{{Name: string(rune(c)) + "y"}, {Name: string(rune(c))}}})
		}
	}
	for _, s := range good {
		if err := sig.Check(s); err != api.OK {
			t.Errorf("Check(%v): error %d", s, err)
		}
	}
	for _, s := range noSignatures() {
		if err := sig.Check(s); err != api.ErrSig {
			t.Errorf("Check(%v): error %d; want %d", s, err, api.ErrSig)
		}
	}
}

// noSignatures are signatures with one fault each.
func noSignatures() []api.Sig {
	long := strings.Repeat("a", 33)
	bad := []api.Sig{
		many(65, 0), many(64, 257), many(1, 257), {Sorts: []string{"a", "b", "a"}}, {Sorts: []string{"a", "a"}}, {Sorts: []string{"a", "a_b"}}, {Sorts: []string{"_"}}, {Sorts: []string{"a_"}},
		{Ops: []api.Op{{Name: "c"}}}, {Sorts: []string{"_a", "b"}, Ops: []api.Op{{Name: "c"}}},
		one(api.Op{Name: "f", Args: make([]int, 9)}), one(api.Op{Name: strings.Repeat("_", 9) + "a", Args: make([]int, 9)}),
		one(api.Op{Name: "f", Args: []int{0, 2}}), one(api.Op{Name: "f", Args: []int{-1, 0}}), one(api.Op{Name: "f", Args: []int{1 << 62}}),
		one(api.Op{Name: "f", Res: 2}), one(api.Op{Name: "f", Res: -1}), one(api.Op{Name: "f", Args: []int{0}, Res: 2}),
		one(api.Op{Name: "_+_"}), one(api.Op{Name: "_+_", Args: []int{0}}), one(api.Op{Name: "_+_", Args: []int{0, 0, 0}}), one(api.Op{Name: "a_"}), one(api.Op{Name: "_a", Args: []int{0, 0}}),
		one(api.Op{Name: "_"}), one(api.Op{Name: "_", Args: []int{0}}), one(api.Op{Name: "__", Args: []int{0, 0}}), one(api.Op{Name: strings.Repeat("_", 8), Args: make([]int, 8)}),
		one(api.Op{Name: "c"}, api.Op{Name: "c"}), one(api.Op{Name: "f", Args: []int{0, 1}, Res: 1}, api.Op{Name: "c"}, api.Op{Name: "f", Args: []int{0, 1}, Res: 1}),
		one(api.Op{Name: "f", Args: make([]int, 8)}, api.Op{Name: "f", Args: make([]int, 8)}), one(api.Op{Name: "c"}, api.Op{Name: "d", Res: 5}), one(api.Op{Name: "d", Res: 5}, api.Op{Name: "c"}),
	}
	names := []string{"", long, " ", "a b", "(", ")", ",", "f(", "f)", "a,b", "a\n", "\x7f", "\x80", "\xff", "é", "a\x00"}
	for c := range 33 {
		names = append(names, string(rune(c)))
	}
	for c := 127; c < 256; c++ {
		names = append(names, "a"+string([]byte{byte(c)}))
	}
	for _, name := range names {
		bad = append(bad, api.Sig{Sorts: []string{"a", name}}, one(api.Op{Name: name}), one(api.Op{Name: "c"}, api.Op{Name: name, Args: []int{0}}))
	}
	return bad
}

// P4.1: operations with a name, of any signature.
func TestFind(t *testing.T) {
	s := numbers()
	s.Ops = append(s.Ops, api.Op{Name: "0", Res: boul}, api.Op{Name: "s"}, api.Op{Name: "0", Res: 77}, api.Op{Name: ""}, api.Op{Name: "0", Res: 77})
	for _, x := range []struct {
		name string
		want []int
	}{{"_+_", []int{2}}, {"0", []int{0, 4, 6, 8}}, {"s", []int{1, 5}}, {"", []int{7}}, {"+", nil}, {"nat", nil}, {"S", nil}} {
		if l := sig.Find(s, x.name); !slices.Equal(l, x.want) {
			t.Errorf("Find(%q): %v; want %v", x.name, l, x.want)
		}
	}
	if l := sig.Find(api.Sig{}, "0"); len(l) != 0 {
		t.Errorf("Find in nothing: %v", l)
	}
	if l := sig.Find(many(1, 300), "o299"); !slices.Equal(l, []int{299}) {
		t.Errorf("Find in too many: %v", l)
	}
}
