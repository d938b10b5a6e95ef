package lex

import (
	"strconv"
	"strings"

	"madrigal/api"
)

// Apart reports whether two tokens can stand side by side without a blank.
func Apart(a, b api.Token) (bool, api.Errno) {
	s := newScanner("")
	if !s.right(a) || !s.right(b) {
		return false, api.ErrArg
	}
	return s.apart(a, b), api.OK
}

// Join returns tokens as a text with as few blanks as there can be.
func Join(l []api.Token) (string, api.Errno) {
	s := newScanner("")
	for _, t := range l {
		if !s.right(t) {
			return "", api.ErrArg
		}
	}
	if len(l) > api.MaxTokens {
		return "", api.ErrLimit
	}
	var text strings.Builder
	for i, t := range l {
		// Pairs suffice: where a token ends depends on no more than the one byte behind it.
		if i > 0 && !s.apart(l[i-1], t) {
			text.WriteByte(' ')
		}
		text.WriteString(spelled(t))
	}
	if text.Len() > api.MaxText {
		return "", api.ErrLimit
	}
	return text.String(), api.OK
}

// spelled returns the bytes of a token. Those of a number below 0 are no number, so that it is not right.
func spelled(t api.Token) string {
	if t.Kind == api.TkNum {
		return strconv.Itoa(t.N)
	}
	return t.S
}

func (s *scanner) right(t api.Token) bool {
	return s.cutInto(spelled(t), t)
}

// apart wants right tokens.
func (s *scanner) apart(a, b api.Token) bool {
	return s.cutInto(spelled(a)+spelled(b), a, b)
}

// cutInto reports whether a text is cut into these tokens, but for places.
func (s *scanner) cutInto(text string, want ...api.Token) bool {
	got := s.first(text, len(want))
	if len(got) != len(want) {
		return false
	}
	for i, t := range got {
		if !alike(t, want[i]) {
			return false
		}
	}
	return true
}

func alike(a, b api.Token) bool {
	return a.Kind == b.Kind && a.N == b.N && a.S == b.S
}
