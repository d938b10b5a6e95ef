package parse

import (
	"strconv"

	"madrigal/api"
)

// stopped is thrown at a byte at which reading does not go on.
type stopped struct {
	at  int
	err api.Errno
}

// state is how far the tokens of a text are read. A token at which reading does not go on is the error wrong.
type state struct {
	tokens []api.Token
	at     int
	size   int
	wrong  api.Errno
}

// look returns a token that is ahead, the zero one behind the last one.
func (s *state) look(ahead int) api.Token {
	if s.at+ahead < len(s.tokens) {
		return s.tokens[s.at+ahead]
	}
	return api.Token{}
}

// begin returns the first byte of a token, the length of the text for what would be behind the last one.
func (s *state) begin(token int) int {
	if token < len(s.tokens) {
		return s.tokens[token].At
	}
	return s.size
}

func (s *state) refuse() { panic(stopped{s.begin(s.at), s.wrong}) }

// isFixed reports whether a token is this word of the language, or this sign.
func isFixed(t api.Token, s string) bool {
	return (t.Kind == api.TkKey || t.Kind == api.TkSign) && t.S == s
}

func isPart(t api.Token) bool { return t.Kind == api.TkName || t.Kind == api.TkSym }

func (s *state) sees(word string) bool { return isFixed(s.look(0), word) }

// skip takes a word or a sign, if it stands here.
func (s *state) skip(word string) bool {
	seen := s.sees(word)
	if seen {
		s.at++
	}
	return seen
}

func (s *state) want(word string) {
	if !s.skip(word) {
		s.refuse()
	}
}

// take returns the token that stands here, if it is right for what is read.
func (s *state) take(right func(api.Token) bool) api.Token {
	t := s.look(0)
	if !right(t) {
		s.refuse()
	}
	s.at++
	return t
}

func isName(t api.Token) bool { return t.Kind == api.TkName }

func isNumber(t api.Token) bool { return t.Kind == api.TkNum }

// placed gives a node the place of the tokens that were taken from one on.
func (s *state) placed(n api.Node, from int) api.Node {
	n.At = s.begin(from)
	n.End = n.At
	if from < s.at {
		n.End = s.tokens[s.at-1].End
	}
	return n
}

func (s *state) node(kind, from int, l ...api.Node) api.Node {
	return s.placed(api.Node{Kind: kind, L: l}, from)
}

func (s *state) named(kind, from int, name string, l ...api.Node) api.Node {
	n := s.node(kind, from, l...)
	n.S = name
	return n
}

func (s *state) numbered(kind, from, number int, l ...api.Node) api.Node {
	n := s.node(kind, from, l...)
	n.N = number
	return n
}

// list returns a list that has the tokens of its nodes alone.
func (s *state) list(l ...api.Node) api.Node {
	n := s.node(api.NdList, s.at, l...)
	if len(l) > 0 {
		n.At = l[0].At
		n.End = l[len(l)-1].End
	}
	return n
}

func (s *state) name() api.Node {
	from := s.at
	t := s.take(isName)
	return s.named(api.NdName, from, t.S)
}

// digits reads a number as a name.
func (s *state) digits() api.Node {
	from := s.at
	t := s.take(isNumber)
	return s.named(api.NdName, from, digitsOf(t))
}

// digitsOf returns the digits of a number, without zeros ahead.
func digitsOf(t api.Token) string { return strconv.Itoa(t.N) }
