package lex_test

import (
	"math/rand"
	"regexp"
	"slices"
	"strconv"
	"strings"
	"testing"

	"madrigal/api"
	"madrigal/lex"
)

// What the chapter lists, written out a second time.
const (
	chapterWords = "accept any behaviour choice endlib endproc endspec endtype eqns exit for forall formaleqns formalopns formalsorts hide i in is let library noexit of ofsort opnnames opns process renamedby actualizedby sortnames sorts specification stop type using wait where"
	chapterSigns = "( ) [ ] { } , ; : ? ! _ [] [> |[ ]| || ||| := = -> => >> .."
)

func name(s string) api.Token { return api.Token{Kind: api.TkName, S: s} }
func key(s string) api.Token  { return api.Token{Kind: api.TkKey, S: s} }
func num(n int) api.Token     { return api.Token{Kind: api.TkNum, N: n} }
func sym(s string) api.Token  { return api.Token{Kind: api.TkSym, S: s} }
func sign(s string) api.Token { return api.Token{Kind: api.TkSign, S: s} }

func at(t api.Token, from, end int) api.Token {
	t.At, t.End = from, end
	return t
}

// bare returns tokens without their places.
func bare(l []api.Token) []api.Token {
	out := slices.Clone(l)
	for i := range out {
		out[i].At, out[i].End = 0, 0
	}
	return out
}

func moved(l []api.Token, by int) []api.Token {
	out := slices.Clone(l)
	for i := range out {
		out[i].At += by
		out[i].End += by
	}
	return out
}

func spell(t api.Token) string {
	if t.Kind == api.TkNum {
		return strconv.Itoa(t.N)
	}
	return t.S
}

// mustTokens cuts a text that is right.
func mustTokens(t *testing.T, text string) []api.Token {
	t.Helper()
	l, wrong, err := lex.Tokens(text)
	if err != api.OK || wrong != 0 {
		t.Fatalf("Tokens(%q): byte %d, error %d", text, wrong, err)
	}
	return l
}

var (
	formBlank  = regexp.MustCompile(`^[ \t\n\r]`)
	formWord   = regexp.MustCompile(`^[a-zA-Z][a-zA-Z0-9']*`)
	formNumber = regexp.MustCompile(`^[0-9]+`)
	formJoined = regexp.MustCompile(`^[0-9]+[a-zA-Z']`)
	formMark   = regexp.MustCompile(`^(\|\|\||\[\]|\[>|\|\[|\]\||\|\||:=|[()\[\]{},;:?!_])`)
	formSymbol = regexp.MustCompile(`^[#$%&*+\-./<=>@\\^~]+`)
)

// endOfComment returns the byte behind the comment with which a text begins, -1 if it has no end.
func endOfComment(text string) int {
	for at := 2; at < len(text); {
		switch {
		case strings.HasPrefix(text[at:], "(*"):
			inner := endOfComment(text[at:])
			if inner < 0 {
				return -1
			}
			at += inner
		case strings.HasPrefix(text[at:], "*)"):
			return at + 2
		default:
			at++
		}
	}
	return -1
}

// byChapter cuts a text as the chapter's list says, point by point. (Without the limits of a text.)
func byChapter(text string) ([]api.Token, int, api.Errno) {
	words := strings.Fields(chapterWords)
	signs := strings.Fields(chapterSigns)
	var l []api.Token
	for at := 0; at < len(text); {
		rest := text[at:]
		t := api.Token{At: at}
		if formBlank.MatchString(rest) {
			at++
			continue
		}
		if strings.HasPrefix(rest, "(*") {
			end := endOfComment(rest)
			if end < 0 {
				return nil, at, api.ErrLex
			}
			at += end
			continue
		}
		if s := formWord.FindString(rest); s != "" {
			t.Kind, t.S, t.End = api.TkName, s, at+len(s)
			if slices.Contains(words, s) {
				t.Kind = api.TkKey
			}
			if len(s) > 32 {
				return nil, at, api.ErrLex
			}
		} else if s := formNumber.FindString(rest); s != "" {
			n, err := strconv.ParseInt(s, 10, 64)
			if err != nil || n > 2147483647 || formJoined.MatchString(rest) {
				return nil, at, api.ErrLex
			}
			t.Kind, t.N, t.End = api.TkNum, int(n), at+len(s)
		} else if s := formMark.FindString(rest); s != "" {
			t.Kind, t.S, t.End = api.TkSign, s, at+len(s)
		} else if s := formSymbol.FindString(rest); s != "" {
			t.Kind, t.S, t.End = api.TkSym, s, at+len(s)
			if slices.Contains(signs, s) {
				t.Kind = api.TkSign
			}
			if len(s) > 32 {
				return nil, at, api.ErrLex
			}
		} else {
			return nil, at, api.ErrLex
		}
		l = append(l, t)
		at = t.End
	}
	return l, 0, api.OK
}

// everyText calls with each text over the letters that has at most size bytes.
func everyText(letters string, size int, with func(text string)) {
	var grow func(text string)
	grow = func(text string) {
		with(text)
		if len(text) < size {
			for i := range len(letters) {
				grow(text + letters[i:i+1])
			}
		}
	}
	grow("")
}

func newRandom() *rand.Rand { return rand.New(rand.NewSource(1)) }

// anyToken returns a right token.
func anyToken(r *rand.Rand) api.Token {
	some := func(letters string, size int) string {
		s := ""
		for range 1 + r.Intn(size) {
			s += string(letters[r.Intn(len(letters))])
		}
		return s
	}
	switch r.Intn(5) {
	case 0:
		s := some("abeinx", 1) + some("abeinxZ09'", 4)
		if lex.Kind(s) == api.TkKey {
			return key(s)
		}
		return name(s)
	case 1:
		return key(strings.Fields(chapterWords)[r.Intn(37)])
	case 2:
		return num([]int{0, 1, 9, 10, 2147483646, 2147483647, r.Intn(5000)}[r.Intn(7)])
	case 3:
		s := some("#$%&*+-./<=>@\\^~", 4)
		if lex.Kind(s) == api.TkSign {
			return sign(s)
		}
		return sym(s)
	}
	return sign(strings.Fields(chapterSigns)[r.Intn(24)])
}

func anyTokens(r *rand.Rand, most int) []api.Token {
	var l []api.Token
	for range r.Intn(most + 1) {
		l = append(l, anyToken(r))
	}
	return l
}

// gap returns blanks and comments, at least one blank or comment.
func gap(r *rand.Rand) string {
	all := []string{" ", "\t", "\n", "\r", "(**)", "(* a \"b *)", "(* (*) *)*)", "(*\n\t(*x*)\r\xff*)", "(***)"}
	s := ""
	for range 1 + r.Intn(3) {
		s += all[r.Intn(len(all))]
	}
	return s
}

// anyText returns a text that is right, with gaps between tokens, ahead of them and behind them.
func anyText(r *rand.Rand, most int) string {
	s := ""
	last := api.Token{}
	for i, t := range anyTokens(r, most) {
		if i > 0 {
			if beside, _ := lex.Apart(last, t); !beside || r.Intn(3) == 0 {
				s += gap(r)
			}
		} else if r.Intn(2) == 0 {
			s += gap(r)
		}
		s += spell(t)
		last = t
	}
	if r.Intn(2) == 0 {
		s += gap(r)
	}
	return s
}

// anyBytes returns a text of pieces that can be right, wrong, or begin or end something.
func anyBytes(r *rand.Rand, most int) string {
	all := []string{"a", "exit", "i", "x'", "7", "0", " ", "\n", "(*", "*)", "(", ")", "*", "[", "]", ">", "|", "||", ":", "=", ".", "-", "+", "_", "'", "\"", "\x80", "!", "(* c *)"}
	s := ""
	for range r.Intn(most + 1) {
		s += all[r.Intn(len(all))]
	}
	return s
}
