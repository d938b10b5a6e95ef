package lex

import "strings"

// Kinds of bytes: what can begin with one.
const (
	ofNothing = iota
	ofBlanks
	ofComments
	ofWords
	ofNumbers
	ofSigns
	ofSymbols
)

const (
	blanks  = " \t\n\r"
	symbols = "#$%&*+-./<=>@\\^~"
	marks   = ")[]{},;:?!_|"
)

// kindOf returns the kind of a byte. The bracket ( has a kind of its own, because a comment comes ahead of a sign.
func kindOf(c byte) int {
	switch {
	case isBlank(c):
		return ofBlanks
	case c == '(':
		return ofComments
	case isLetter(c):
		return ofWords
	case isDigit(c):
		return ofNumbers
	case isSymbol(c):
		return ofSymbols
	case strings.IndexByte(marks, c) >= 0:
		return ofSigns
	}
	return ofNothing
}

func isBlank(c byte) bool { return strings.IndexByte(blanks, c) >= 0 }

func isSymbol(c byte) bool { return strings.IndexByte(symbols, c) >= 0 }

func isDigit(c byte) bool { return '0' <= c && c <= '9' }

func isLetter(c byte) bool { return 'a' <= c && c <= 'z' || 'A' <= c && c <= 'Z' }

func isInWord(c byte) bool { return isLetter(c) || isDigit(c) || c == '\'' }
