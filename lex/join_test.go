package lex_test

import (
	"slices"
	"strings"
	"testing"

	"madrigal/api"
	"madrigal/lex"
)

// wrongTokens are tokens that are not right.
func wrongTokens() []api.Token {
	return []api.Token{
		{}, {S: "a"}, {S: "a b"}, {Kind: 6, S: "a"}, {Kind: -1, S: "+"},
		name(""), name("exit"), name(" a"), name("a "), name("a b"), name("a(**)"), name("1"), name("+"), name("'a"), name("a\""), name(strings.Repeat("a", 33)),
		{Kind: api.TkName, S: "a", N: 1},
		key(""), key("a"), key("Exit"), key("exit "), {Kind: api.TkKey, S: "exit", N: 1},
		num(-1), num(2147483648), num(1 << 62), num(-1 << 63), {Kind: api.TkNum, S: "7"}, {Kind: api.TkNum, S: "7", N: 7}, {Kind: api.TkNum, S: "a"},
		sym(""), sym("->"), sym("="), sym("a"), sym("+ "), sym("+a"), sym("("), sym(strings.Repeat("+", 33)), {Kind: api.TkSym, S: "+", N: 1},
		sign(""), sign("+"), sign("|"), sign("(*"), sign("()"), sign("[>>"), sign("a"), sign("exit"), sign(";\n"), {Kind: api.TkSign, S: ";", N: 1},
	}
}

// P1.2: Apart.
func TestApart(t *testing.T) {
	for _, x := range []struct {
		a, b api.Token
		want bool
	}{
		{name("a"), name("b"), false}, {name("a"), key("in"), false}, {key("in"), name("a"), false}, {key("i"), key("in"), false},
		{name("a"), num(1), false}, {num(1), name("a"), false}, {num(1), num(2), false}, {num(1), key("in"), false}, {key("in"), num(1), false},
		{name("a"), sign("["), true}, {sign("["), name("a"), true}, {num(1), sign(".."), true}, {sign(".."), num(1), true}, {num(1), sign("_"), true},
		{name("a"), sym("+"), true}, {sym("+"), num(0), true}, {sym("+"), sym("+"), false}, {sym("+"), sign("="), false}, {sign("="), sym(">"), false}, {sym("-"), sym(">"), false}, {sym("."), sign(".."), false},
		{sign("("), sym("*"), false}, {sign("("), sym("*+"), false}, {sign("("), sym("+*"), true}, {sym("*"), sign(")"), true}, {sign("("), sign(")"), true}, {sign("("), sign("("), true},
		{sign("["), sign("]"), false}, {sign("["), sign("]|"), false}, {sign("["), sign("[]"), true}, {sign("["), sym(">"), false}, {sign("["), sign(">>"), false}, {sign("["), sym("<"), true}, {sign("[]"), sign("|["), true}, {sign("["), sign("["), true},
		{sign("]"), sign("|["), false}, {sign("]"), sign("||"), false}, {sign("]"), sign("]|"), true}, {sign("]"), sign("["), true}, {sign("]|"), sign("["), true}, {sign("]|"), sign("||"), true},
		{sign("||"), sign("||"), false}, {sign("||"), sign("|["), false}, {sign("||"), sign("["), true}, {sign("|||"), sign("||"), true}, {sign("|||"), sign("|["), true}, {sign("|["), sign("]|"), true}, {sign("|["), sign("[]"), true}, {sign("|["), sym(">"), true},
		{sign(":"), sign("="), false}, {sign(":"), sign("=>"), false}, {sign(":"), sym("=="), false}, {sign(":"), sign("->"), true}, {sign(":="), sign("="), true}, {sign(":"), sign(":="), true}, {sign("[>"), sym(">"), true},
		{sign("_"), sign("_"), true}, {sign("!"), sign("!"), true},
	} {
		if is, err := lex.Apart(x.a, x.b); is != x.want || err != api.OK {
			t.Errorf("Apart(%v, %v): %v, error %d", x.a, x.b, is, err)
		}
		if is, err := lex.Apart(at(x.a, 9, -4), at(x.b, 1<<60, 3)); is != x.want || err != api.OK {
			t.Errorf("Apart(%v, %v) with other places: %v, error %d", x.a, x.b, is, err)
		}
	}
	for _, x := range wrongTokens() {
		if is, err := lex.Apart(x, name("a")); is || err != api.ErrArg {
			t.Errorf("Apart(%v, a): %v, error %d", x, is, err)
		}
		if is, err := lex.Apart(sign("("), x); is || err != api.ErrArg {
			t.Errorf("Apart((, %v): %v, error %d", x, is, err)
		}
	}
}

// P1.2: Apart is what it says, for each pair of signs and some others.
func TestApartByCutting(t *testing.T) {
	some := []api.Token{name("a"), key("i"), num(0), num(2147483647), sym("*"), sym(">"), sym("==")}
	for _, s := range lex.Signs() {
		some = append(some, sign(s))
	}
	for _, a := range some {
		for _, b := range some {
			l, _, cut := byChapter(spell(a) + spell(b))
			want := cut == api.OK && slices.Equal(bare(l), []api.Token{a, b})
			if is, err := lex.Apart(a, b); is != want || err != api.OK {
				t.Errorf("Apart(%v, %v): %v, error %d", a, b, is, err)
			}
		}
	}
}

// P1.2: Join.
func TestJoinOfTokens(t *testing.T) {
	for _, x := range []struct {
		l    []api.Token
		want string
	}{
		{nil, ""},
		{[]api.Token{at(num(7), 5, 9)}, "7"},
		{[]api.Token{name("a"), name("b"), sign("["), sign("]"), sign("("), sym("*"), sign("=")}, "a b[ ]( * ="},
		{[]api.Token{num(0), sign(".."), num(2147483647), key("in")}, "0..2147483647 in"},
		{[]api.Token{sign("]"), sign("|["), sign("||"), sign("|||"), sign("||")}, "] |[|| |||||"},
		{[]api.Token{sign(":"), sign("="), sign(":="), sign("="), sym("*"), sign(")")}, ": =:== *)"},
		{[]api.Token{sign("("), sign("("), sym("*"), sign(")")}, "(( *)"},
	} {
		if s, err := lex.Join(x.l); s != x.want || err != api.OK {
			t.Errorf("Join(%v): %q, error %d; want %q", x.l, s, err, x.want)
		}
	}
	for _, x := range wrongTokens() {
		for _, l := range [][]api.Token{{x}, {name("a"), x}, {x, name("a")}, {sign("("), x, sign(")")}} {
			if s, err := lex.Join(l); s != "" || err != api.ErrArg {
				t.Errorf("Join(%v): %q, error %d", l, s, err)
			}
		}
	}
}

// P1.2: the limits of Join.
func TestLimitsOfJoin(t *testing.T) {
	many := func(t api.Token, n int) []api.Token { return slices.Repeat([]api.Token{t}, n) }
	long := name(strings.Repeat("a", 32))
	for _, x := range []struct {
		what string
		l    []api.Token
		size int
		err  api.Errno
	}{
		{"20000 tokens", many(sign(";"), 20000), 20000, api.OK},
		{"20001 tokens", many(sign(";"), 20001), 0, api.ErrLimit},
		{"20000 tokens with blanks", many(name("ab"), 20000), 59999, api.OK},
		{"20001 tokens, the last one wrong", append(many(sign(";"), 20000), name("")), 0, api.ErrArg},
		{"100000 bytes", append(many(long, 3030), sign(";"), name("abcdefghi"), sign(";")), 100000, api.OK},
		{"100001 bytes", append(many(long, 3030), sign(";"), name("abcdefghij"), sign(";")), 0, api.ErrLimit},
		{"99999 bytes with blanks", many(name("abcd"), 20000), 99999, api.OK},
		{"too many bytes for the blanks", append(many(name("abcd"), 19999), name("abcdef")), 0, api.ErrLimit},
		{"too many bytes, the last token wrong", append(many(long, 5000), num(-1)), 0, api.ErrArg},
	} {
		if s, err := lex.Join(x.l); len(s) != x.size || err != x.err {
			t.Errorf("%s: %d bytes, error %d", x.what, len(s), err)
		}
	}
}

// P1.4: Join of right tokens is cut into them, and no text that is cut into them is shorter.
func TestThereAndBack(t *testing.T) {
	r := newRandom()
	for range 2000 {
		want := anyTokens(r, 10)
		s, err := lex.Join(want)
		if err != api.OK {
			t.Fatalf("Join(%v): error %d", want, err)
		}
		if l := mustTokens(t, s); !slices.Equal(bare(l), want) {
			t.Fatalf("Join(%v): %q, cut into %v", want, s, l)
		}
		for i := range len(s) {
			if l, _, err := lex.Tokens(s[:i] + s[i+1:]); err == api.OK && slices.Equal(bare(l), want) {
				t.Fatalf("Join(%v): %q, also without the byte %d", want, s, i)
			}
		}
	}
}

// P1.4: of all short texts none that has the same tokens as another one is shorter than their Join.
func TestShortest(t *testing.T) {
	shortest := map[string]int{}
	tokens := map[string][]api.Token{}
	everyText("a0 (*)[]|>:=", 4, func(text string) {
		l, _, err := lex.Tokens(text)
		if err != api.OK {
			return
		}
		k := ""
		for _, x := range l {
			k += spell(x) + "\x00"
		}
		if n, ok := shortest[k]; !ok || len(text) < n {
			shortest[k], tokens[k] = len(text), bare(l)
		}
	})
	for k, n := range shortest {
		s, err := lex.Join(tokens[k])
		if err != api.OK || len(s) > n {
			t.Fatalf("Join(%v): %q, error %d; a text of %d bytes is cut into them", tokens[k], s, err, n)
		}
	}
}

// P1.2: Place.
func TestPlaceOfBytes(t *testing.T) {
	for _, x := range []struct {
		text          string
		at, line, col int
	}{
		{"", 0, 1, 1}, {"a", 0, 1, 1}, {"a", 1, 1, 2}, {"\nab", 0, 1, 1}, {"\nab", 1, 2, 1}, {"\nab", 2, 2, 2}, {"\nab", 3, 2, 3},
		{"ab\n", 2, 1, 3}, {"ab\n", 3, 2, 1}, {"\n\n\n", 3, 4, 1}, {"a\r\nb", 3, 2, 1}, {"a\r\nb", 2, 1, 3}, {"\xc3\xa4b", 2, 1, 3}, {"\t\tx", 2, 1, 3}, {"(*\n*)\"", 5, 2, 3},
	} {
		if line, col, err := lex.Place(x.text, x.at); line != x.line || col != x.col || err != api.OK {
			t.Errorf("Place(%q, %d): %d, %d, error %d", x.text, x.at, line, col, err)
		}
	}
	long := strings.Repeat("a\n", 60000)
	if line, col, err := lex.Place(long, len(long)); line != 60001 || col != 1 || err != api.OK {
		t.Errorf("Place of a long text: %d, %d, error %d", line, col, err)
	}
	for _, x := range []struct {
		text string
		at   int
	}{{"", 1}, {"", -1}, {"a", 2}, {"a\n", -1}, {"a", 1<<63 - 1}, {"a", -1 << 63}} {
		if line, col, err := lex.Place(x.text, x.at); line != 0 || col != 0 || err != api.ErrArg {
			t.Errorf("Place(%q, %d): %d, %d, error %d", x.text, x.at, line, col, err)
		}
	}
}

// P1.2: Strip.
func TestStripOfTexts(t *testing.T) {
	for text, want := range map[string]string{
		"": "", " \t\n": " \t\n", "a(*b*)c": "a     c", "(*)*)": "     ", "(**)": "    ", "*)": "*)", "(a*)": "(a*)",
		"a(*\tb\r\n*)\tc\r": "a     \n  \tc\r", "(*(*\n*)\n*)x": "    \n  \n  x", "((**)*)": "(    *)", "(* \" | \xff *)+": "           +",
	} {
		if s, err := lex.Strip(text); s != want || err != api.OK {
			t.Errorf("Strip(%q): %q, error %d; want %q", text, s, err, want)
		}
	}
	for text, want := range map[string]api.Errno{
		"(*": api.ErrLex, "a \"": api.ErrLex, "(*a*)|": api.ErrLex, "12b": api.ErrLex,
		strings.Repeat(" ", 100001): api.ErrLimit, strings.Repeat(";", 20001): api.ErrLimit, strings.Repeat(";", 20001) + "(*": api.ErrLex,
	} {
		if s, err := lex.Strip(text); s != "" || err != want {
			t.Errorf("Strip of %d bytes: %q, error %d; want %d", len(text), s, err, want)
		}
	}
}

// P1.11: Strip changes no token and no length, Strip of Strip nothing, and no comment is left.
func TestStripped(t *testing.T) {
	check := func(text string) {
		before, _, cut := lex.Tokens(text)
		s, err := lex.Strip(text)
		if err != cut {
			t.Fatalf("Strip(%q): error %d, want %d", text, err, cut)
		}
		if err != api.OK {
			return
		}
		if len(s) != len(text) || strings.Contains(s, "(*") || strings.Count(s, "\n") != strings.Count(text, "\n") {
			t.Fatalf("Strip(%q): %q", text, s)
		}
		if after := mustTokens(t, s); !slices.Equal(before, after) {
			t.Fatalf("Strip(%q): %q, with the tokens %v, not %v", text, s, after, before)
		}
		if again, err := lex.Strip(s); again != s || err != api.OK {
			t.Fatalf("Strip of Strip(%q): %q, error %d", text, again, err)
		}
		end := 0
		for _, x := range append(before, api.Token{At: len(text), End: len(text)}) {
			if strings.Trim(s[end:x.At], " \t\n\r") != "" {
				t.Fatalf("Strip(%q): %q", text, s)
			}
			end = x.End
		}
	}
	everyText("(*)a \n", 5, check)
	r := newRandom()
	for range 3000 {
		check(anyText(r, 8))
		check(anyBytes(r, 8))
	}
}
