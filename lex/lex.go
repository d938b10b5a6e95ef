// Package lex reads the tokens of texts. See shared/doc/01-lex.md.
package lex

import (
	"strings"

	"madrigal/api"
)

// Tokens returns the tokens of a text, or the byte at which reading stops.
func Tokens(text string) ([]api.Token, int, api.Errno) {
	return newScanner(text).finish(never)
}

func never() bool { return false }

// Words returns the words of the language.
func Words() []string {
	return []string{
		"accept", "any", "behaviour", "choice", "endlib", "endproc", "endspec", "endtype", "eqns", "exit",
		"for", "forall", "formaleqns", "formalopns", "formalsorts", "hide", "i", "in", "is", "let",
		"library", "noexit", "of", "ofsort", "opnnames", "opns", "process", "renamedby", "actualizedby", "sortnames",
		"sorts", "specification", "stop", "type", "using", "wait", "where",
	}
}

// Signs returns the signs.
func Signs() []string {
	return []string{
		"(", ")", "[", "]", "{", "}", ",", ";", ":", "?", "!", "_",
		"[]", "[>", "|[", "]|", "||", "|||", ":=", "=", "->", "=>", ">>", "..",
	}
}

// Kind returns which kind of token a text is as a whole, 0 if it is none.
func Kind(text string) int {
	l := newScanner("").first(text, 1)
	if len(l) == 1 && l[0].At == 0 && l[0].End == len(text) {
		return l[0].Kind
	}
	return 0
}

// Place returns the line and the column of a byte.
func Place(text string, at int) (int, int, api.Errno) {
	if at < 0 || at > len(text) {
		return 0, 0, api.ErrArg
	}
	ahead := text[:at]
	return 1 + strings.Count(ahead, "\n"), at - strings.LastIndexByte(ahead, '\n'), api.OK
}

// Strip returns a text with blanks in the place of comments.
func Strip(text string) (string, api.Errno) {
	s := newScanner(text)
	if _, _, err := s.finish(never); err != api.OK {
		return "", err
	}
	bare := []byte(text)
	for _, c := range s.comments {
		for at := c.at; at < c.end; at++ {
			if bare[at] != '\n' {
				bare[at] = ' '
			}
		}
	}
	return string(bare), api.OK
}
