package lex

import (
	"strings"

	"madrigal/api"
)

// wrong is thrown at a byte that begins nothing that could be taken.
type wrong int

// span is a part of a text, from the byte at up to the byte end.
type span struct{ at, end int }

// scanner cuts a text. Between two steps it stands outside of all tokens and comments, and what it does then depends on nothing but the bytes from at on: so it can begin behind any token.
type scanner struct {
	text     string
	at       int
	tokens   []api.Token
	comments []span
	signs    []string
	fixed    map[string]int
	steps    map[int]func(*scanner)
}

func newScanner(text string) *scanner {
	s := &scanner{
		text:  text,
		signs: Signs(),
		fixed: map[string]int{},
		steps: map[int]func(*scanner){
			ofNothing:  (*scanner).refuse,
			ofBlanks:   (*scanner).blank,
			ofComments: (*scanner).bracket,
			ofWords:    (*scanner).word,
			ofNumbers:  (*scanner).number,
			ofSigns:    (*scanner).sign,
			ofSymbols:  (*scanner).symbol,
		},
	}
	for _, w := range Words() {
		s.fixed[w] = api.TkKey
	}
	for _, w := range s.signs {
		s.fixed[w] = api.TkSign
	}
	return s
}

// restart makes a scanner cut another text, so that its tables need not be made again.
func (s *scanner) restart(text string) {
	s.text, s.at = text, 0
	s.tokens, s.comments = nil, nil
}

// scan makes steps until the text ends, or done holds, or a byte is wrong, which it returns.
func (s *scanner) scan(done func() bool) (at int, err api.Errno) {
	defer func() {
		if w, ok := recover().(wrong); ok {
			at, err = int(w), api.ErrLex
		}
	}()
	for s.at < len(s.text) && !done() {
		step := s.steps[kindOf(s.text[s.at])]
		step(s)
	}
	return 0, api.OK
}

// finish is scan within the limits: bytes are counted ahead of it, tokens behind it, as Tokens reports them.
func (s *scanner) finish(done func() bool) ([]api.Token, int, api.Errno) {
	if len(s.text) > api.MaxText {
		return nil, 0, api.ErrLimit
	}
	if at, err := s.scan(done); err != api.OK {
		return nil, at, err
	}
	if len(s.tokens) > api.MaxTokens {
		return nil, 0, api.ErrLimit
	}
	return s.tokens, 0, api.OK
}

// first returns the tokens of a text, at most one more than most (which tells that there are too many), and none if the text is wrong as far as that.
func (s *scanner) first(text string, most int) []api.Token {
	s.restart(text)
	if _, err := s.scan(func() bool { return len(s.tokens) > most }); err != api.OK {
		return nil
	}
	return s.tokens
}

func (s *scanner) refuse() { panic(wrong(s.at)) }

func (s *scanner) blank() { s.at = s.run(isBlank) }

func (s *scanner) bracket() {
	if strings.HasPrefix(s.text[s.at:], "(*") {
		s.comment()
	} else {
		s.sign()
	}
}

func (s *scanner) comment() {
	open := 0
	for at := s.at; at < len(s.text); {
		switch {
		case strings.HasPrefix(s.text[at:], "(*"):
			open++
			at += 2
		case strings.HasPrefix(s.text[at:], "*)"):
			open--
			at += 2
		default:
			at++
		}
		if open == 0 {
			s.comments = append(s.comments, span{s.at, at})
			s.at = at
			return
		}
	}
	s.refuse()
}

func (s *scanner) word() { s.named(api.TkName, s.run(isInWord)) }

func (s *scanner) symbol() { s.named(api.TkSym, s.run(isSymbol)) }

// named takes the bytes up to end: a word or a sign, if they are one, otherwise a name of the kind.
func (s *scanner) named(kind, end int) {
	name := s.text[s.at:end]
	if len(name) > api.MaxName {
		s.refuse()
	}
	if known, ok := s.fixed[name]; ok {
		kind = known
	}
	s.take(api.Token{Kind: kind, S: name}, end)
}

func (s *scanner) number() {
	end := s.run(isDigit)
	if end < len(s.text) && isInWord(s.text[end]) {
		s.refuse()
	}
	n := 0
	for _, c := range []byte(s.text[s.at:end]) {
		n = 10*n + int(c-'0')
		if n > api.MaxNum {
			s.refuse()
		}
	}
	s.take(api.Token{Kind: api.TkNum, N: n}, end)
}

// sign takes the longest sign. No sign that is made of symbols begins with a byte that leads here.
func (s *scanner) sign() {
	longest := ""
	for _, sign := range s.signs {
		if len(sign) > len(longest) && strings.HasPrefix(s.text[s.at:], sign) {
			longest = sign
		}
	}
	if longest == "" {
		s.refuse()
	}
	s.take(api.Token{Kind: api.TkSign, S: longest}, s.at+len(longest))
}

func (s *scanner) take(t api.Token, end int) {
	t.At, t.End = s.at, end
	s.tokens = append(s.tokens, t)
	s.at = end
}

// run returns the end of the bytes from at on that are in a set.
func (s *scanner) run(in func(byte) bool) int {
	end := s.at
	for end < len(s.text) && in(s.text[end]) {
		end++
	}
	return end
}
