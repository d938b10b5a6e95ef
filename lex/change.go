package lex

import (
	"slices"
	"sort"

	"madrigal/api"
)

// Change returns an edited text, and its tokens, made of those that there were.
func Change(text string, l []api.Token, e api.Edit) (string, []api.Token, int, api.Errno) {
	known, _, err := Tokens(text)
	if err != api.OK || !slices.Equal(known, l) || !fits(e, len(text)) {
		return "", nil, 0, api.ErrArg
	}
	changed := text[:e.At] + e.S + text[e.At+e.Cut:]
	tokens, at, err := recut(changed, l, e)
	return changed, tokens, at, err
}

// fits does not add At and Cut, whose sum can be too great for an int.
func fits(e api.Edit, size int) bool {
	return e.At >= 0 && e.Cut >= 0 && e.At <= size && e.Cut <= size-e.At
}

// recut cuts a changed text with the tokens from before the edit: those ahead of it are kept, and those behind it from the first one on that still begins a token.
func recut(changed string, old []api.Token, e api.Edit) ([]api.Token, int, api.Errno) {
	s := newScanner(changed)
	// A token that ends just where the edit begins can become a longer one.
	kept := sort.Search(len(old), func(i int) bool { return old[i].End >= e.At })
	if kept > 0 {
		s.tokens = slices.Clone(old[:kept])
		s.at = old[kept-1].End
	}
	return s.finish(func() bool { return s.resume(old, e) })
}

// resume takes over the old tokens from at on, if the scanner stands behind the edit where one of them began.
func (s *scanner) resume(old []api.Token, e api.Edit) bool {
	if s.at < e.At+len(e.S) {
		return false
	}
	shift := len(e.S) - e.Cut
	at := s.at - shift
	next := sort.Search(len(old), func(i int) bool { return old[i].At >= at })
	if next == len(old) || old[next].At != at {
		return false
	}
	for _, t := range old[next:] {
		t.At += shift
		t.End += shift
		s.tokens = append(s.tokens, t)
	}
	s.at = len(s.text)
	return true
}
