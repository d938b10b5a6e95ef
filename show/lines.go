package show

import (
	"strconv"
	"strings"

	"madrigal/api"
	"madrigal/lex"
)

// turn is what a word does to lines: whether one begins ahead of it, whether one begins behind it, and how many more processes, specifications and types are open behind it.
type turn struct {
	ahead, behind bool
	open          int
}

// layout is a text in lines, as far as it is written.
type layout struct {
	text   strings.Builder
	turns  map[string]turn
	width  int
	line   int // bytes of the last line
	open   int
	inType bool
	last   api.Token
}

func newLayout(width int) *layout {
	l := &layout{width: width, turns: map[string]turn{
		"specification": {open: 1},
		"process":       {ahead: true, open: 1},
		"type":          {ahead: true, open: 1},
		"endspec":       {ahead: true, open: -1},
		"endproc":       {ahead: true, open: -1},
		"endtype":       {ahead: true, open: -1},
		"is":            {behind: true},
		":=":            {behind: true},
	}}
	for _, s := range []string{"behaviour", "where", "library", "sorts", "opns", "eqns", "formalsorts", "formalopns", "formaleqns", "forall", "ofsort"} {
		l.turns[s] = turn{ahead: true}
	}
	return l
}

func inLines(tokens []api.Token, width int) (string, api.Errno) {
	l := newLayout(width)
	for _, t := range tokens {
		l.add(t)
	}
	if len(tokens) > api.MaxTokens || l.text.Len() > api.MaxText {
		return "", api.ErrLimit
	}
	return l.text.String(), api.OK
}

// add writes a token into the last line, or into a new one.
func (l *layout) add(t api.Token) {
	word, x := spelled(t), l.turns[t.S]
	if l.text.Len() > 0 {
		gap := l.gap(t)
		if x.ahead || l.isOver() || l.line+len(gap)+len(word) > l.width {
			l.begin(l.open + min(x.open, 0))
		} else {
			l.write(gap)
		}
	}
	l.write(word)
	l.open += x.open
	l.last = t
	if x.open != 0 {
		l.inType = t.S == "type"
	}
}

func (l *layout) write(s string) {
	l.text.WriteString(s)
	l.line += len(s)
}

// begin begins a line, within as many things as are open.
func (l *layout) begin(open int) {
	l.text.WriteByte('\n')
	l.line = 0
	l.write(strings.Repeat(" ", min(2*open, l.width/2)))
}

// gap returns the blank that a token needs behind the last one, if it does.
func (l *layout) gap(t api.Token) string {
	if beside, _ := lex.Apart(l.last, t); beside {
		return ""
	}
	return " "
}

// isOver reports whether a line begins behind the last token. In a type it is equations alone that have a semicolon.
func (l *layout) isOver() bool {
	return l.turns[l.last.S].behind || l.inType && l.last.S == ";"
}

func spelled(t api.Token) string {
	if t.Kind == api.TkNum {
		return strconv.Itoa(t.N)
	}
	return t.S
}
