package lex_test

import (
	"math/rand"
	"slices"
	"strings"
	"testing"

	"madrigal/api"
	"madrigal/lex"
)

func edited(text string, e api.Edit) string { return text[:e.At] + e.S + text[e.At+e.Cut:] }

// checkChange holds Change against Tokens of the edited text.
func checkChange(t *testing.T, text string, e api.Edit) {
	t.Helper()
	l := mustTokens(t, text)
	before := slices.Clone(l)
	s, m, wrong, err := lex.Change(text, l, e)
	want := edited(text, e)
	m2, wrong2, err2 := lex.Tokens(want)
	if s != want || wrong != wrong2 || err != err2 || !slices.Equal(m, m2) {
		t.Fatalf("Change(%.99q, %+v): %.99q, %v, byte %d, error %d; want %v, %d, %d", text, e, s, m, wrong, err, m2, wrong2, err2)
	}
	if !slices.Equal(l, before) {
		t.Fatalf("Change(%.99q, %+v) changes its argument", text, e)
	}
	for i := range m {
		m[i] = api.Token{}
	}
	if !slices.Equal(l, before) {
		t.Fatalf("Change(%.99q, %+v): its result shares memory with its argument", text, e)
	}
}

// P1.3: edits that join, split, lengthen and shorten tokens, open and close comments.
func TestChangeOfTexts(t *testing.T) {
	for _, x := range []struct {
		text string
		e    api.Edit
	}{
		{"", api.Edit{}}, {"", api.Edit{S: "a"}}, {"", api.Edit{S: "\""}}, {"", api.Edit{S: "(*"}},
		{"a", api.Edit{}}, {"a", api.Edit{At: 1}}, {"a", api.Edit{Cut: 1}}, {"a", api.Edit{Cut: 1, S: "b"}}, {"a", api.Edit{At: 1, S: "b"}}, {"a", api.Edit{S: "b"}},
		{"a b", api.Edit{At: 1, Cut: 1}}, {"ab", api.Edit{At: 1, S: " "}}, {"a b c", api.Edit{At: 2, Cut: 1, S: "long"}}, {"a b c", api.Edit{At: 2, Cut: 2}},
		{"12 b", api.Edit{At: 2, Cut: 1}}, {"12;b", api.Edit{At: 2, S: "x"}}, {"1 2", api.Edit{At: 1, Cut: 1, S: "000000000"}}, {"1 2", api.Edit{At: 1, Cut: 1, S: "00000000"}},
		{"[ ]", api.Edit{At: 1, Cut: 1}}, {"[]", api.Edit{At: 1, S: " "}}, {"] |[", api.Edit{At: 1, Cut: 1}}, {"|| |||", api.Edit{At: 2, Cut: 1}}, {"|| a", api.Edit{At: 2, S: "|"}}, {"|| a", api.Edit{At: 1, Cut: 1}},
		{": = x", api.Edit{At: 1, Cut: 1}}, {"- > x", api.Edit{At: 1, Cut: 1}}, {"a >> b", api.Edit{At: 3, Cut: 1, S: "= (* *)"}}, {"+ + +", api.Edit{At: 2, Cut: 1, S: strings.Repeat("+", 33)}},
		{"exit", api.Edit{At: 2, S: " "}}, {"ex it", api.Edit{At: 2, Cut: 1}}, {"exits", api.Edit{At: 4, Cut: 1}},
		{"a >> b", api.Edit{At: 6, S: "(*"}}, {"a b c *) d", api.Edit{At: 2, S: "(*"}}, {"a (* b *) c *) d", api.Edit{At: 2, Cut: 2}}, {"a (* b *) c (* d *) e", api.Edit{At: 7, Cut: 2}}, {"a (* b *) c (* d *) e", api.Edit{At: 7, Cut: 1}},
		{"a (* b c *) d", api.Edit{At: 6, S: "*)"}}, {"a (* b c *) d", api.Edit{At: 6, S: "*)(*"}}, {"a (* b c *) d", api.Edit{At: 6, S: "(*"}}, {"( * ) a", api.Edit{At: 1, Cut: 1}}, {"( * *) a", api.Edit{At: 1, Cut: 1}},
		{"a b c", api.Edit{At: 1, S: "\""}}, {"a b c", api.Edit{Cut: 5}}, {"a b c", api.Edit{Cut: 5, S: "x y"}}, {"abc", api.Edit{At: 1, Cut: 1, S: "b"}}, {"abc def", api.Edit{At: 1, Cut: 5, S: "\n"}},
		{"a", api.Edit{At: 1, S: strings.Repeat("a", 31)}}, {"a", api.Edit{At: 1, S: strings.Repeat("a", 32)}},
	} {
		checkChange(t, x.text, x.e)
	}
	s, m, wrong, err := lex.Change("a (*x*) b", []api.Token{at(name("a"), 0, 1), at(name("b"), 8, 9)}, api.Edit{At: 2, Cut: 2, S: ";"})
	want := []api.Token{at(name("a"), 0, 1), at(sign(";"), 2, 3), at(name("x"), 3, 4), at(sym("*"), 4, 5), at(sign(")"), 5, 6), at(name("b"), 7, 8)}
	if s != "a ;x*) b" || wrong != 0 || err != api.OK || !slices.Equal(m, want) {
		t.Errorf("Change: %q, %v, byte %d, error %d", s, m, wrong, err)
	}
}

// P1.3: all edits of short texts, and of longer ones some.
func TestChangeByTokens(t *testing.T) {
	everyText("a(*)| ", 3, func(text string) {
		if _, _, err := lex.Tokens(text); err != api.OK {
			return
		}
		for from := range len(text) + 1 {
			for cut := range len(text) - from + 1 {
				everyText("a(*)", 2, func(s string) { checkChange(t, text, api.Edit{At: from, Cut: cut, S: s}) })
			}
		}
	})
	r := newRandom()
	for range 5000 {
		text := anyText(r, 10)
		checkChange(t, text, anyEdit(r, text))
	}
}

func anyEdit(r *rand.Rand, text string) api.Edit {
	e := api.Edit{At: r.Intn(len(text) + 1)}
	e.Cut = r.Intn(min(len(text)-e.At, 6) + 1)
	if r.Intn(3) > 0 {
		e.S = anyBytes(r, 3)
	}
	return e
}

// P1.3: the limits of the edited text.
func TestLimitsOfChange(t *testing.T) {
	blank, many := strings.Repeat(" ", 99998)+"ab", strings.Repeat(";", 20000)
	for _, x := range []struct {
		text string
		e    api.Edit
		err  api.Errno
	}{
		{blank, api.Edit{At: 7, S: " "}, api.ErrLimit}, {blank, api.Edit{At: 7, S: "\""}, api.ErrLimit}, {blank, api.Edit{At: 7, Cut: 1, S: "\""}, api.ErrLex}, {blank, api.Edit{At: 7, Cut: 1, S: "x"}, api.OK}, {blank, api.Edit{At: 99998, Cut: 2}, api.OK},
		{many, api.Edit{At: 7, S: ";"}, api.ErrLimit}, {many, api.Edit{S: "a"}, api.ErrLimit}, {many, api.Edit{At: 7, S: ";\""}, api.ErrLex}, {many, api.Edit{At: 7, Cut: 1, S: ":"}, api.OK}, {many, api.Edit{At: 20000, S: "(**)"}, api.OK}, {many, api.Edit{At: 5, S: "|"}, api.ErrLex},
	} {
		if _, _, _, err := lex.Change(x.text, mustTokens(t, x.text), x.e); err != x.err {
			t.Errorf("Change of %d bytes by %+v: error %d", len(x.text), x.e, err)
		}
		checkChange(t, x.text, x.e)
	}
	text := strings.Repeat(" ", 99999) + "a"
	big := strings.Repeat("x", 200000)
	if s, m, wrong, err := lex.Change(text, mustTokens(t, text), api.Edit{At: 1, S: big}); s != " "+big+text[1:] || len(m) != 0 || wrong != 0 || err != api.ErrLimit {
		t.Errorf("Change by a large text: %d bytes, %v, byte %d, error %d", len(s), m, wrong, err)
	}
}

// P1.3: invalid arguments.
func TestWrongChange(t *testing.T) {
	refused := func(text string, l []api.Token, e api.Edit) {
		t.Helper()
		if s, m, wrong, err := lex.Change(text, l, e); s != "" || len(m) != 0 || wrong != 0 || err != api.ErrArg {
			t.Errorf("Change(%.99q, %v, %+v): %q, %v, byte %d, error %d", text, l, e, s, m, wrong, err)
		}
	}
	text := "a >> 7"
	l := mustTokens(t, text)
	most := 1<<63 - 1
	for _, e := range []api.Edit{{At: -1}, {Cut: -1}, {At: 7}, {At: 6, Cut: 1}, {Cut: 7}, {At: 3, Cut: 4}, {At: most}, {Cut: most}, {At: most, Cut: most}, {At: 1, Cut: most}, {At: most, Cut: 1}, {At: -most - 1, Cut: most}, {At: -1, Cut: 1, S: "a"}} {
		refused(text, l, e)
	}
	refused(text, nil, api.Edit{})
	refused(text, l[1:], api.Edit{})
	refused(text, l[:2], api.Edit{})
	refused(text, append(slices.Clone(l), l[2]), api.Edit{})
	refused(text, []api.Token{l[0], l[2], l[1]}, api.Edit{})
	for i := range l {
		for _, change := range []func(x *api.Token){func(x *api.Token) { x.Kind++ }, func(x *api.Token) { x.N++ }, func(x *api.Token) { x.S += "a" }, func(x *api.Token) { x.At++ }, func(x *api.Token) { x.End-- }} {
			m := slices.Clone(l)
			change(&m[i])
			refused(text, m, api.Edit{})
		}
	}
	refused("", l, api.Edit{})
	refused("", []api.Token{{}}, api.Edit{})
	for _, bad := range []string{"\"", "(*", "a |", strings.Repeat(" ", 100001), strings.Repeat(";", 20001)} {
		refused(bad, nil, api.Edit{})
		refused(bad, []api.Token{}, api.Edit{Cut: len(bad)})
	}
	refused("a \"", []api.Token{at(name("a"), 0, 1)}, api.Edit{At: 2, Cut: 1})
	if s, m, wrong, err := lex.Change(" ", []api.Token{}, api.Edit{At: 1, S: "a"}); s != " a" || len(m) != 1 || wrong != 0 || err != api.OK {
		t.Errorf("Change with an empty list: %q, %v, byte %d, error %d", s, m, wrong, err)
	}
}

// P1.10: an edit that undoes another one.
func TestUndo(t *testing.T) {
	r := newRandom()
	undone := 0
	for range 4000 {
		text := anyText(r, 8)
		l := mustTokens(t, text)
		e := anyEdit(r, text)
		s, m, _, err := lex.Change(text, l, e)
		if err != api.OK {
			continue
		}
		undone++
		undo := api.Edit{At: e.At, Cut: len(e.S), S: text[e.At : e.At+e.Cut]}
		if back, again, _, err := lex.Change(s, m, undo); back != text || err != api.OK || !slices.Equal(again, l) {
			t.Fatalf("Change(%q, %+v) undone: %q, %v, error %d", text, e, back, again, err)
		}
	}
	if undone < 1000 {
		t.Errorf("%d edits undone", undone)
	}
}

// P1.10: edits at different places in either order.
func TestEitherOrder(t *testing.T) {
	r := newRandom()
	made := 0
	for range 8000 {
		text := anyText(r, 8)
		a, b := anyEdit(r, text), anyEdit(r, text)
		if a.At+a.Cut >= b.At {
			continue
		}
		later := b
		later.At += len(a.S) - a.Cut
		l := mustTokens(t, text)
		s1, m1, _, err1 := lex.Change(text, l, a)
		s2, m2, _, err2 := lex.Change(text, l, b)
		if err1 != api.OK || err2 != api.OK {
			continue
		}
		made++
		both1, all1, wrong1, err1 := lex.Change(s1, m1, later)
		both2, all2, wrong2, err2 := lex.Change(s2, m2, a)
		if both1 != both2 || wrong1 != wrong2 || err1 != err2 || !slices.Equal(all1, all2) {
			t.Fatalf("Change(%q) by %+v and %+v: %q, %v, %d, %d; otherwise %q, %v, %d, %d", text, a, b, both1, all1, wrong1, err1, both2, all2, wrong2, err2)
		}
	}
	if made < 1000 {
		t.Errorf("%d pairs of edits", made)
	}
}
