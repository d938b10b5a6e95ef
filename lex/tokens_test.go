package lex_test

import (
	"slices"
	"strconv"
	"strings"
	"testing"

	"madrigal/api"
	"madrigal/lex"
)

// P1.1: what tokens a text has, and where.
func TestTokensOfTexts(t *testing.T) {
	for _, x := range []struct {
		text string
		want []api.Token
	}{
		{"", nil},
		{" \t\r\n", nil},
		{"(**)", nil},
		{"(***)(* \" ' | \xff\x00 *)", nil},
		{"(*)*)", nil},
		{"(*(*)*)*)", nil},
		{"(*(*(**)*)*)", nil},
		{"P[a]>>b;i", []api.Token{at(name("P"), 0, 1), at(sign("["), 1, 2), at(name("a"), 2, 3), at(sign("]"), 3, 4), at(sign(">>"), 4, 6), at(name("b"), 6, 7), at(sign(";"), 7, 8), at(key("i"), 8, 9)}},
		{"x' := 12..5 (* (* *) *) [>", []api.Token{at(name("x'"), 0, 2), at(sign(":="), 3, 5), at(num(12), 6, 8), at(sign(".."), 8, 10), at(num(5), 10, 11), at(sign("[>"), 24, 26)}},
		{"_+_*)", []api.Token{at(sign("_"), 0, 1), at(sym("+"), 1, 2), at(sign("_"), 2, 3), at(sym("*"), 3, 4), at(sign(")"), 4, 5)}},
		{"*)", []api.Token{at(sym("*"), 0, 1), at(sign(")"), 1, 2)}},
		{"+*)*", []api.Token{at(sym("+*"), 0, 2), at(sign(")"), 2, 3), at(sym("*"), 3, 4)}},
		{"+(*)x*)-", []api.Token{at(sym("+"), 0, 1), at(sym("-"), 7, 8)}},
		{"((**))", []api.Token{at(sign("("), 0, 1), at(sign(")"), 5, 6)}},
		{"( *)", []api.Token{at(sign("("), 0, 1), at(sym("*"), 2, 3), at(sign(")"), 3, 4)}},
		{"a'b''0", []api.Token{at(name("a'b''0"), 0, 6)}},
		{"Exit exit exit0 exit' EXIT", []api.Token{at(name("Exit"), 0, 4), at(key("exit"), 5, 9), at(name("exit0"), 10, 15), at(name("exit'"), 16, 21), at(name("EXIT"), 22, 26)}},
		{"i ii in", []api.Token{at(key("i"), 0, 1), at(name("ii"), 2, 4), at(key("in"), 5, 7)}},
		{"0 007 000000000002147483647", []api.Token{at(num(0), 0, 1), at(num(7), 2, 5), at(num(2147483647), 6, 27)}},
		{"12_", []api.Token{at(num(12), 0, 2), at(sign("_"), 2, 3)}},
		{"1.5", []api.Token{at(num(1), 0, 1), at(sym("."), 1, 2), at(num(5), 2, 3)}},
		{"[]|[]|", []api.Token{at(sign("[]"), 0, 2), at(sign("|["), 2, 4), at(sign("]|"), 4, 6)}},
		{"[[]]", []api.Token{at(sign("["), 0, 1), at(sign("[]"), 1, 3), at(sign("]"), 3, 4)}},
		{"|||||[", []api.Token{at(sign("|||"), 0, 3), at(sign("||"), 3, 5), at(sign("["), 5, 6)}},
		{"]|[", []api.Token{at(sign("]|"), 0, 2), at(sign("["), 2, 3)}},
		{"[>>", []api.Token{at(sign("[>"), 0, 2), at(sym(">"), 2, 3)}},
		{"[>>>", []api.Token{at(sign("[>"), 0, 2), at(sign(">>"), 2, 4)}},
		{":==", []api.Token{at(sign(":="), 0, 2), at(sign("="), 2, 3)}},
		{"::=", []api.Token{at(sign(":"), 0, 1), at(sign(":="), 1, 3)}},
		{"=>>", []api.Token{at(sym("=>>"), 0, 3)}},
		{"...", []api.Token{at(sym("..."), 0, 3)}},
		{"{}?!,;:", []api.Token{at(sign("{"), 0, 1), at(sign("}"), 1, 2), at(sign("?"), 2, 3), at(sign("!"), 3, 4), at(sign(","), 4, 5), at(sign(";"), 5, 6), at(sign(":"), 6, 7)}},
		{"#$%&*+-./<=>@\\^~", []api.Token{at(sym("#$%&*+-./<=>@\\^~"), 0, 16)}},
		{"a(*b*)c", []api.Token{at(name("a"), 0, 1), at(name("c"), 6, 7)}},
		{"1(**)2", []api.Token{at(num(1), 0, 1), at(num(2), 5, 6)}},
		{"-(**)>", []api.Token{at(sym("-"), 0, 1), at(sym(">"), 5, 6)}},
	} {
		l, wrong, err := lex.Tokens(x.text)
		if err != api.OK || wrong != 0 || !slices.Equal(l, x.want) {
			t.Errorf("Tokens(%q): %v, byte %d, error %d; want %v", x.text, l, wrong, err, x.want)
		}
	}
}

// P1.1: the byte of an error.
func TestTokensOfWrongTexts(t *testing.T) {
	for _, x := range []struct {
		text string
		at   int
	}{
		{"a|[b]||c", 6}, {"|", 0}, {"a |", 2}, {"||||", 3}, {"[]|", 2}, {"]||", 2},
		{"(* (* *)", 0}, {"a (*", 2}, {"(*)", 0}, {"(*(*)*)", 0}, {"(*)a", 0}, {"(**) (* *", 5}, {"a(* b \" c", 1},
		{"a 12b", 2}, {"12'", 0}, {"0Z", 0}, {"a12 12a", 4}, {"+1_ 1i", 4},
		{"a 2147483648", 2}, {"9223372036854775808", 0}, {"99999999999999999999999999", 0}, {"02147483648", 0}, {"2147483648a", 0},
		{"\"", 0}, {"'", 0}, {"a\x00", 1}, {"a \x80", 2}, {"\v", 0}, {"\f", 0}, {"`", 0}, {" \xc3\xa4", 1}, {"a\x7f", 1},
		{"a \" |", 2}, {"\" (*", 0},
	} {
		if l, wrong, err := lex.Tokens(x.text); err != api.ErrLex || wrong != x.at || len(l) != 0 {
			t.Errorf("Tokens(%q): %v, byte %d, error %d; want byte %d", x.text, l, wrong, err, x.at)
		}
	}
}

// P1.1: each byte that is none of those that the chapter lists is wrong, unless it is in a comment.
func TestEachByte(t *testing.T) {
	const right = " \t\n\rabcdefghijklmnopqrstuvwxyzABCDEFGHIJKLMNOPQRSTUVWXYZ0123456789#$%&*+-./<=>@\\^~()[]{},;:?!_"
	for b := range 256 {
		c := string([]byte{byte(b)})
		want := api.OK
		if !strings.Contains(right, c) {
			want = api.ErrLex
		}
		if _, wrong, err := lex.Tokens(c); err != want || wrong != 0 {
			t.Errorf("Tokens(%q): byte %d, error %d", c, wrong, err)
		}
		if l, _, err := lex.Tokens("(* " + c + " *)"); err != api.OK || len(l) != 0 {
			t.Errorf("Tokens of a comment of %q: %v, error %d", c, l, err)
		}
	}
}

// P1.1: the length of names.
func TestLongNames(t *testing.T) {
	for _, c := range []struct {
		one  string
		kind int
	}{{"x", api.TkName}, {"+", api.TkSym}} {
		for _, size := range []int{31, 32} {
			s := strings.Repeat(c.one, size)
			l, _, err := lex.Tokens("a " + s + ";")
			if err != api.OK || len(l) != 3 || l[1] != (api.Token{Kind: c.kind, S: s, At: 2, End: 2 + size}) {
				t.Errorf("%d bytes: %v, error %d", size, l, err)
			}
		}
		for _, size := range []int{33, 34, 1000} {
			if l, wrong, err := lex.Tokens("a " + strings.Repeat(c.one, size)); err != api.ErrLex || wrong != 2 || len(l) != 0 {
				t.Errorf("%d bytes: %v, byte %d, error %d", size, l, wrong, err)
			}
		}
	}
	if l := mustTokens(t, strings.Repeat("0", 50)+"1"); !slices.Equal(l, []api.Token{at(num(1), 0, 51)}) {
		t.Errorf("a number with zeros ahead: %v", l)
	}
}

// P1.1: the limits of texts, and which error comes first.
func TestLimitsOfTexts(t *testing.T) {
	blanks := func(n int) string { return strings.Repeat(" ", n) }
	many := func(n int) string { return strings.Repeat(";", n) }
	for _, x := range []struct {
		what, text string
		n, at      int
		err        api.Errno
	}{
		{"100000 bytes", blanks(99999) + "a", 1, 0, api.OK},
		{"100001 bytes", blanks(100000) + "a", 0, 0, api.ErrLimit},
		{"100000 bytes of a comment", "(*" + blanks(99996) + "*)", 0, 0, api.OK},
		{"100001 bytes, a wrong one", "\"" + blanks(100000), 0, 0, api.ErrLimit},
		{"100000 bytes, the last one wrong", blanks(99999) + "\"", 0, 99999, api.ErrLex},
		{"20000 tokens", many(20000), 20000, 0, api.OK},
		{"20001 tokens", many(20001), 0, 0, api.ErrLimit},
		{"20001 tokens, then a wrong byte", many(20001) + "\"", 0, 20001, api.ErrLex},
		{"100000 tokens", many(100000), 0, 0, api.ErrLimit},
	} {
		if l, wrong, err := lex.Tokens(x.text); err != x.err || wrong != x.at || len(l) != x.n {
			t.Errorf("%s: %d tokens, byte %d, error %d", x.what, len(l), wrong, err)
		}
	}
	if deep := strings.Repeat("(*", 25000) + strings.Repeat("*)", 25000); len(mustTokens(t, deep)) != 0 {
		t.Errorf("comments within each other have tokens")
	}
}

// P1.1: each short text is cut as the chapter's list says.
func TestTokensByChapter(t *testing.T) {
	check := func(text string) {
		l, wrong, err := lex.Tokens(text)
		l2, wrong2, err2 := byChapter(text)
		if err != err2 || wrong != wrong2 || !slices.Equal(l, l2) {
			t.Fatalf("Tokens(%q): %v, byte %d, error %d; want %v, %d, %d", text, l, wrong, err, l2, wrong2, err2)
		}
	}
	everyText("i1' (*)[]|>:=.-\"", 4, check)
	everyText("(*)a", 7, check)
	everyText("[]|>", 6, check)
	r := newRandom()
	for range 5000 {
		check(anyBytes(r, 12))
	}
}

// P1.1: the lists.
func TestLists(t *testing.T) {
	if w := strings.Join(lex.Words(), " "); w != chapterWords {
		t.Errorf("Words: %s", w)
	}
	if s := strings.Join(lex.Signs(), " "); s != chapterSigns {
		t.Errorf("Signs: %s", s)
	}
	for _, list := range []func() []string{lex.Words, lex.Signs} {
		l := list()
		first := l[0]
		l[0] = "changed"
		if list()[0] != first {
			t.Errorf("a list that was returned is no new one")
		}
	}
}

// P1.1: Kind.
func TestKindOfTexts(t *testing.T) {
	for text, want := range map[string]int{
		"[]": api.TkSign, "=>": api.TkSign, "==>": api.TkSym, "exit": api.TkKey, "a b": 0,
		"": 0, " ": 0, "a ": 0, " a": 0, "a\n": 0, "(**)": 0, "(**)a": 0, "a(**)": 0, "(*": 0, "(*a": 0,
		"a": api.TkName, "x'": api.TkName, "'": 0, "Exit": api.TkName, "i": api.TkKey, "i'": api.TkName,
		"0": api.TkNum, "007": api.TkNum, "2147483647": api.TkNum, "2147483648": 0, "-1": 0, "1a": 0,
		"|": 0, "||": api.TkSign, "||||": 0, "(": api.TkSign, "()": 0, "*)": 0, "*": api.TkSym, "\"": 0, "a\"": 0, ":=": api.TkSign, ":==": 0,
		"[>": api.TkSign, "[>>": 0, "_": api.TkSign, "__": 0, "_+_": 0, ".": api.TkSym, "..": api.TkSign, "...": api.TkSym,
		strings.Repeat("a", 32): api.TkName, strings.Repeat("a", 33): 0, strings.Repeat("*", 32): api.TkSym, strings.Repeat("*", 33): 0,
	} {
		if k := lex.Kind(text); k != want {
			t.Errorf("Kind(%q): %d, want %d", text, k, want)
		}
	}
}

// P1.5: blanks and comments change no token, but for its place.
func TestBlanksAndComments(t *testing.T) {
	r := newRandom()
	for range 3000 {
		want := anyTokens(r, 8)
		text := ""
		for _, x := range want {
			text += gap(r) + spell(x)
		}
		text += gap(r)
		if l := bare(mustTokens(t, text)); !slices.Equal(l, want) {
			t.Fatalf("Tokens(%q): %v, want %v", text, l, want)
		}
	}
	tight := mustTokens(t, "a[b]>>exit(1)")
	for _, g := range []string{" ", "\t", "\r\n", "(**)", "(*)*)", " (* (* a *) \" *)\n"} {
		loose := g
		for _, x := range tight {
			loose += spell(x) + g
		}
		if l := mustTokens(t, loose); !slices.Equal(bare(l), bare(tight)) {
			t.Errorf("Tokens(%q): %v", loose, l)
		}
	}
}

// P1.6: tokens stand one behind the other, each is cut out of its place alone, and between them is nothing but blanks and comments.
func TestPlacesOfTokens(t *testing.T) {
	r := newRandom()
	for range 3000 {
		text := anyText(r, 8)
		end := 0
		for _, x := range mustTokens(t, text) {
			if x.At < end || x.End <= x.At || x.End > len(text) {
				t.Fatalf("Tokens(%q): %v behind the byte %d", text, x, end)
			}
			if alone := mustTokens(t, text[x.At:x.End]); !slices.Equal(alone, moved([]api.Token{x}, -x.At)) {
				t.Fatalf("Tokens(%q): %v, alone %v", text, x, alone)
			}
			if between := mustTokens(t, text[end:x.At]); len(between) != 0 {
				t.Fatalf("Tokens(%q): %v between", text, between)
			}
			end = x.End
		}
		if behind := mustTokens(t, text[end:]); len(behind) != 0 {
			t.Fatalf("Tokens(%q): %v behind", text, behind)
		}
	}
}

// P1.7: no token is followed by a byte with which it would be a longer one of the same kind.
func TestAsLongAsItCanBe(t *testing.T) {
	check := func(text string) {
		l, _, err := lex.Tokens(text)
		if err != api.OK {
			return
		}
		for _, x := range l {
			if x.End < len(text) && lex.Kind(text[x.At:x.End+1]) == x.Kind {
				t.Fatalf("Tokens(%q): %v is shorter than it could be", text, x)
			}
		}
	}
	everyText("i1(*)[]|>:=.", 4, check)
	r := newRandom()
	for range 5000 {
		check(anyText(r, 6))
	}
	for _, s := range append(append(lex.Signs(), lex.Words()...), "xy", "12", "<+>") {
		if l := mustTokens(t, s); len(l) != 1 {
			t.Errorf("Tokens(%q): %v", s, l)
		}
	}
}

// P1.8: ahead of the byte of an error is none, and what stands behind the wrong bytes does not matter.
func TestFirstError(t *testing.T) {
	r := newRandom()
	for range 5000 {
		text := anyBytes(r, 8)
		_, wrong, err := lex.Tokens(text)
		if err == api.OK {
			continue
		}
		if _, _, err := lex.Tokens(text[:wrong]); err != api.OK {
			t.Fatalf("Tokens(%q): byte %d, but error %d ahead of it", text, wrong, err)
		}
	}
	for _, x := range []struct {
		text string
		at   int
	}{{"a \"", 2}, {"a 12b", 2}, {"2147483648", 0}, {"; |)", 2}, {"[]|)", 2}, {strings.Repeat("x", 33), 0}, {"a " + strings.Repeat("+", 33), 2}, {"(**) '", 5}} {
		for range 100 {
			text := x.text + anyBytes(r, 4)
			if l, wrong, err := lex.Tokens(text); err != api.ErrLex || wrong != x.at || len(l) != 0 {
				t.Fatalf("Tokens(%q): %v, byte %d, error %d", text, l, wrong, err)
			}
		}
	}
}

// P1.9: a text behind another one, with a blank between.
func TestOneBehindTheOther(t *testing.T) {
	r := newRandom()
	for i := range 3000 {
		a, b := anyText(r, 5), anyText(r, 5)
		both := a + string(" \t\n\r"[i%4]) + b
		want := append(mustTokens(t, a), moved(mustTokens(t, b), len(a)+1)...)
		if l := mustTokens(t, both); !slices.Equal(l, want) {
			t.Fatalf("Tokens(%q): %v, want %v", both, l, want)
		}
	}
}

// P1.12: each word and each sign is one token; no name is a word, no name of symbols a sign.
func TestWordsAndSigns(t *testing.T) {
	for i, list := range [][]string{lex.Words(), lex.Signs()} {
		kind := []int{api.TkKey, api.TkSign}[i]
		for _, s := range list {
			want := []api.Token{{Kind: kind, S: s, At: 0, End: len(s)}}
			if l := mustTokens(t, s); !slices.Equal(l, want) || lex.Kind(s) != kind {
				t.Errorf("Tokens(%q): %v", s, l)
			}
		}
	}
	words, signs := strings.Fields(chapterWords), strings.Fields(chapterSigns)
	for _, s := range words {
		if k := lex.Kind(strings.ToUpper(s)); k != api.TkName {
			t.Errorf("Kind of %s: %d", strings.ToUpper(s), k)
		}
	}
	check := func(text string) {
		l, _, _ := lex.Tokens(text)
		for _, x := range l {
			if x.Kind == api.TkName && slices.Contains(words, x.S) || x.Kind == api.TkSym && slices.Contains(signs, x.S) {
				t.Fatalf("Tokens(%q): %v", text, x)
			}
			if x.Kind == api.TkKey && !slices.Contains(words, x.S) || x.Kind == api.TkSign && !slices.Contains(signs, x.S) {
				t.Fatalf("Tokens(%q): %v", text, x)
			}
		}
	}
	everyText("-=>.", 5, check)
	everyText("inof", 4, check)
	r := newRandom()
	for i := range 3000 {
		check(anyText(r, 5))
		check(strconv.Itoa(i) + anyText(r, 2))
	}
}
