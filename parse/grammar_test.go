package parse_test

import (
	"math/rand"
	"slices"
	"strings"
	"testing"

	"madrigal/api"
	"madrigal/lex"
	"madrigal/parse"
)

// The chapter's grammar, written out a second time: what is in brackets can be left out, in braces there is any number of it, / stands between alternatives. NAME, SYM, NUM are kinds of tokens, EXPR is the extent of an expression, PRIO and SIDE what stands behind a Shape; everything else without a rule is a word or a sign.
const chapterGrammar = `
Spec = specification NAME Gates Params : Func { Unit } behaviour Beh Where endspec
Unit = Lib / Type
Proc = process NAME Gates Params : Func := Beh Where endproc
Where = [ where { Inner } ]
Inner = Type / Proc
Gates = [ '[' Names ']' ]
Params = [ '(' Decls ')' ]
Names = NAME { , NAME }
Decl = Names : NAME
Decls = Decl { , Decl }
Func = noexit / exit [ '(' Names ')' ]
Lib = library Names endlib
Type = type NAME is TypeBody endtype
TypeBody = Plain / Rename / Actual
Plain = [ Names ] [ formalsorts Names ] [ formalopns { Op } ] [ formaleqns { Eqns } ] [ sorts Names ] [ opns { Op } ] [ eqns { Eqns } ]
Rename = NAME renamedby [ sortnames { To } ] [ opnnames { To } ]
Actual = NAME actualizedby Names using [ sortnames { To } ] [ opnnames { To } ]
To = Shape for Shape
Shape = Part / NUM / Mixed
Part = NAME / SYM
Mixed = _ Part { _ Part } [ _ ] / Part _ [ Part { _ Part } [ _ ] ]
OpName = Part / NUM / Mixed [ '(' PRIO [ SIDE ] ')' ]
Op = OpName { , OpName } : [ Names ] -> NAME
Eqns = [ forall Decls ] ofsort NAME { Eqn ; }
Eqn = [ Eq { , Eq } => ] Eq
Eq = EXPR = EXPR
Beh = Dis [ >> [ accept Decls in ] Beh ]
Dis = Parts [ [> Dis ]
Parts = Sum [ Sign Parts ]
Sign = ||| / || / |[ Names ]|
Sum = Pre [ [] Sum ]
Pre = '[' Eq { , Eq } ']' -> Pre / Action / wait NUM ; Pre / hide Names in Beh / let Bind { , Bind } in Beh / choice Decls [] Beh / choice Pick { , Pick } [] Beh / stop / exit [ '(' Given { , Given } ')' ] / Call / '(' Beh ')'
Action = Gate [ Offer { Offer } [ '[' Eq { , Eq } ']' ] ] [ Win ] ; Pre
Gate = NAME / i
Offer = ! EXPR / ? Names : NAME
Win = '{' NUM [ .. [ NUM ] ] '}'
Bind = NAME : NAME = EXPR
Pick = NAME in '[' Names ']'
Given = EXPR / any NAME
Call = NAME Gates [ '(' EXPR { , EXPR } ')' ]
Text = Spec
Behaviour = Beh
Expression = EXPR
`

// Kinds of items of the grammar.
const (
	itToken = iota
	itRule
	itAll
	itOne
	itOptional
	itMany
)

type item struct {
	kind int
	s    string
	l    []item
}

// grammar reads the chapter's grammar.
func grammar() map[string]item {
	rules := map[string]item{}
	lines := strings.Split(strings.TrimSpace(chapterGrammar), "\n")
	for _, line := range lines {
		rules[strings.Fields(line)[0]] = item{}
	}
	for _, line := range lines {
		words := strings.Fields(line)
		rest := words[2:]
		rules[words[0]] = alternatives(rules, &rest)
	}
	return rules
}

func alternatives(rules map[string]item, words *[]string) item {
	one := item{kind: itOne}
	all := item{kind: itAll}
	for len(*words) > 0 && (*words)[0] != "]" && (*words)[0] != "}" {
		w := (*words)[0]
		*words = (*words)[1:]
		switch _, isRule := rules[w]; {
		case w == "/":
			one.l = append(one.l, all)
			all = item{kind: itAll}
		case w == "[" || w == "{":
			inner := alternatives(rules, words)
			*words = (*words)[1:]
			kind := itOptional
			if w == "{" {
				kind = itMany
			}
			all.l = append(all.l, item{kind: kind, l: []item{inner}})
		case isRule:
			all.l = append(all.l, item{kind: itRule, s: w})
		default:
			if len(w) == 3 && w[0] == '\'' {
				w = w[1:2]
			}
			all.l = append(all.l, item{kind: itToken, s: w})
		}
	}
	one.l = append(one.l, all)
	return one
}

// recognizer follows all ways through the grammar, and keeps the last token at which one of them did not go on: no text goes on with it.
type recognizer struct {
	rules  map[string]item
	tokens []api.Token
	far    int
	known  map[string]map[int][]int
}

// wrongToken returns the first token that is too much, and false, or true, if none is.
func wrongToken(rules map[string]item, top string, tokens []api.Token) (int, bool) {
	r := &recognizer{rules: rules, tokens: tokens, known: map[string]map[int][]int{}}
	for _, end := range r.ends(item{kind: itRule, s: top}, 0) {
		if end == len(tokens) {
			return 0, true
		}
		r.far = max(r.far, end)
	}
	return r.far, false
}

// ends returns where an item that begins at a token can end.
func (r *recognizer) ends(x item, at int) []int {
	switch x.kind {
	case itToken:
		end := r.token(x.s, at)
		if end == at {
			r.far = max(r.far, at)
			return nil
		}
		return []int{end}
	case itRule:
		return r.rule(x.s, at)
	case itAll:
		l := []int{at}
		for _, y := range x.l {
			l = r.behind(y, l)
		}
		return l
	case itOne:
		var l []int
		for _, y := range x.l {
			l = append(l, r.ends(y, at)...)
		}
		return unique(l)
	case itOptional:
		return unique(append(r.ends(x.l[0], at), at))
	}
	l := []int{at}
	for last := l; len(last) > 0; {
		var fresh []int
		for _, end := range r.behind(x.l[0], last) {
			if !slices.Contains(l, end) {
				fresh = append(fresh, end)
			}
		}
		l = append(l, fresh...)
		last = fresh
	}
	return unique(l)
}

func (r *recognizer) behind(x item, from []int) []int {
	var l []int
	for _, at := range from {
		l = append(l, r.ends(x, at)...)
	}
	return unique(l)
}

func unique(l []int) []int {
	slices.Sort(l)
	return slices.Compact(l)
}

func (r *recognizer) rule(name string, at int) []int {
	if r.known[name] == nil {
		r.known[name] = map[int][]int{}
	}
	if l, ok := r.known[name][at]; ok {
		return l
	}
	l := r.ends(r.rules[name], at)
	if name == "Shape" && len(l) > 1 {
		l = l[len(l)-1:] // it takes as much as it can
	}
	r.known[name][at] = l
	return l
}

// token returns the token behind a word, a sign, or what a word in capitals stands for; at, if it does not stand there.
func (r *recognizer) token(s string, at int) int {
	if s == "EXPR" {
		return extent(r.tokens, at)
	}
	if at < len(r.tokens) && fits(s, r.tokens[at]) {
		return at + 1
	}
	return at
}

func fits(s string, t api.Token) bool {
	switch s {
	case "NAME":
		return t.Kind == api.TkName
	case "SYM":
		return t.Kind == api.TkSym
	case "NUM":
		return t.Kind == api.TkNum
	case "PRIO":
		return t.Kind == api.TkNum && t.N > 0 && t.N < 10
	case "SIDE":
		return t.Kind == api.TkName && (t.S == "left" || t.S == "right")
	}
	return (t.Kind == api.TkKey || t.Kind == api.TkSign) && t.S == s
}

func extent(tokens []api.Token, at int) int {
	for open := 0; at < len(tokens); at++ {
		switch t := tokens[at]; {
		case t.Kind == api.TkName || t.Kind == api.TkSym || t.Kind == api.TkNum || fits("of", t):
		case fits("(", t):
			open++
		case fits(")", t) && open > 0:
			open--
		case fits(",", t) && open > 0:
		default:
			return at
		}
	}
	return at
}

// derive makes tokens by the grammar.
func derive(r *rand.Rand, rules map[string]item, x item, deep int) []api.Token {
	var l []api.Token
	switch x.kind {
	case itToken:
		return anyToken(r, x.s, deep)
	case itRule:
		return derive(r, rules, rules[x.s], deep-1)
	case itAll:
		for _, y := range x.l {
			l = append(l, derive(r, rules, y, deep)...)
		}
	case itOne:
		pick := r.Intn(len(x.l))
		if deep < 0 { // what ends soon
			for i, y := range x.l {
				if y.l[0].s == "stop" || y.l[0].s == "Lib" || y.l[0].s == "Type" || y.l[0].s == "Part" || y.l[0].s == "Plain" {
					pick = i
				}
			}
		}
		return derive(r, rules, x.l[pick], deep)
	case itOptional:
		if deep >= 0 && r.Intn(2) == 0 {
			return derive(r, rules, x.l[0], deep)
		}
	case itMany:
		for deep >= 0 && r.Intn(2) == 0 {
			l = append(l, derive(r, rules, x.l[0], deep-1)...)
		}
	}
	return l
}

func anyToken(r *rand.Rand, s string, deep int) []api.Token {
	pick := func(l ...string) string { return l[r.Intn(len(l))] }
	switch s {
	case "NAME":
		return []api.Token{{Kind: api.TkName, S: pick("a", "b", "x'", "left", "ii", "then")}}
	case "SIDE":
		return []api.Token{{Kind: api.TkName, S: pick("left", "right")}}
	case "SYM":
		return []api.Token{{Kind: api.TkSym, S: pick("+", "*", "==", "-")}}
	case "NUM":
		return []api.Token{{Kind: api.TkNum, N: r.Intn(12)}}
	case "PRIO":
		return []api.Token{{Kind: api.TkNum, N: 1 + r.Intn(9)}}
	case "EXPR":
		return anyExtent(r, deep)
	}
	return []api.Token{fixed(s)}
}

func fixed(s string) api.Token {
	if lex.Kind(s) == api.TkKey {
		return api.Token{Kind: api.TkKey, S: s}
	}
	return api.Token{Kind: api.TkSign, S: s}
}

// anyExtent makes the extent of an expression, which is mostly one.
func anyExtent(r *rand.Rand, deep int) []api.Token {
	one := api.Token{Kind: api.TkName, S: []string{"a", "b", "c"}[r.Intn(3)]}
	if deep < 0 || r.Intn(3) > 0 {
		return []api.Token{one}
	}
	inner := anyExtent(r, deep-1)
	switch r.Intn(6) {
	case 0:
		return append(inner, fixed("of"), one)
	case 1:
		return append(append([]api.Token{one, fixed("(")}, inner...), fixed(","), one, fixed(")"))
	case 2:
		return append(append([]api.Token{fixed("(")}, inner...), fixed(")"))
	case 3:
		return []api.Token{{Kind: api.TkNum, N: r.Intn(3)}}
	case 4:
		return []api.Token{{Kind: api.TkSym, S: "+"}}
	}
	return []api.Token{one}
}

// damaged returns tokens of which some were changed.
func damaged(r *rand.Rand, l, other []api.Token) []api.Token {
	l = slices.Clone(l)
	for range 1 + r.Intn(2) {
		fresh := other[r.Intn(len(other))]
		if r.Intn(2) == 0 {
			words := append(lex.Words(), lex.Signs()...)
			fresh = fixed(words[r.Intn(len(words))])
		}
		if len(l) == 0 {
			return []api.Token{fresh}
		}
		at := r.Intn(len(l))
		switch r.Intn(5) {
		case 0:
			l[at] = fresh
		case 1:
			l = slices.Delete(l, at, at+1)
		case 2:
			l = slices.Insert(l, at, fresh)
		case 3:
			l = l[:at]
		case 4:
			l = slices.Insert(l, at, l[at])
		}
	}
	return l
}

// joined returns a text of tokens, and the tokens with their places.
func joined(t *testing.T, l []api.Token) (string, []api.Token) {
	t.Helper()
	text, err := lex.Join(l)
	if err != api.OK {
		t.Fatalf("Join(%v): error %d", l, err)
	}
	return text, mustTokens(t, text)
}

func byteOf(text string, l []api.Token, token int) int {
	if token < len(l) {
		return l[token].At
	}
	return len(text)
}

func tops() []string { return []string{"Text", "Behaviour", "Expression"} }

// P2.1, P2.6: texts of all rules are read, and texts that are wrong are refused at the token that is too much, as the chapter's grammar has it, whatever follows.
func TestTooMuch(t *testing.T) {
	r := newRandom()
	rules := grammar()
	right, wrong := 0, 0
	var before []api.Token
	for i := range 12000 {
		kind := min(i%16, 2) % 3
		top := tops()[kind]
		read := readings()[kind]
		l := derive(r, rules, item{kind: itRule, s: top}, 4+r.Intn(9))
		if len(l) > 400 {
			continue
		}
		if i%3 > 0 {
			if len(before) == 0 {
				before = l
			}
			l, before = damaged(r, l, before), l
		}
		text, tokens := joined(t, l)
		token, ok := wrongToken(rules, top, tokens)
		_, at, err := read.read(text)
		if ok {
			right++
			if err == api.ErrSyntax || err == api.OK && at != 0 {
				t.Fatalf("%s(%q): byte %d, error %d", read.what, text, at, err)
			}
			continue
		}
		wrong++
		if err != api.ErrSyntax || at != byteOf(text, tokens, token) {
			t.Fatalf("%s(%q): byte %d, error %d; want byte %d", read.what, text, at, err, byteOf(text, tokens, token))
		}
		if token < len(l) {
			tail := damaged(r, l[token+1:], before)
			other, _ := joined(t, append(slices.Clone(l[:token+1]), tail...))
			if _, at2, err := read.read(other); err != api.ErrSyntax || at2 != at {
				t.Fatalf("%s(%q): byte %d, error %d; of %q byte %d", read.what, other, at2, err, text, at)
			}
		}
	}
	if right < 2500 || wrong < 2500 {
		t.Errorf("%d texts are right, %d wrong", right, wrong)
	}
}

// P2.4: the tokens of a text, joined or with blanks and comments between them, are the same tree, but for places, or have the same error at the same token.
func TestOneTree(t *testing.T) {
	r := newRandom()
	rules := grammar()
	read := 0
	var before []api.Token
	for i := range 4500 {
		kind := min(i%16, 2) % 3
		l := derive(r, rules, item{kind: itRule, s: tops()[kind]}, 4+r.Intn(9))
		if len(l) > 400 {
			continue
		}
		if i%4 == 0 && len(before) > 0 {
			l = damaged(r, l, before)
		}
		before = append(l, fixed("stop"))
		tight, tokens := joined(t, l)
		loose := spread(r, l)
		n, at, err := readings()[kind].read(tight)
		n2, at2, err2 := readings()[kind].read(loose)
		if err != err2 || !parse.Same(n, n2) {
			t.Fatalf("%q: %s, error %d; %q: %s, error %d", tight, form(n), err, loose, form(n2), err2)
		}
		if err == api.OK {
			read++
			continue
		}
		token := slices.IndexFunc(tokens, func(x api.Token) bool { return x.At == at })
		if err == api.ErrMix {
			token = -1
		} else if token < 0 {
			token = len(tokens)
		}
		if token >= 0 && at2 != byteOf(loose, mustTokens(t, loose), token) || token < 0 && at2 != 0 {
			t.Fatalf("%q: byte %d, error %d; %q: byte %d", tight, at, err, loose, at2)
		}
	}
	if read < 1000 {
		t.Errorf("%d texts were read", read)
	}
}
