// Package tokens implements what the parsers of terms, formulas and models have in common: a list of tokens that is read from left to right.
package tokens

import (
	"voussoir/api"
	"voussoir/lexi"
)

// List is a list of tokens and the index up to which it has been read.
type List struct {
	Tokens []lexi.Token
	At     int
}

// Peek returns the next token; at the end of the list it returns one that no rule has.
func (l *List) Peek() lexi.Token {
	if l.At == len(l.Tokens) {
		return lexi.Token{Kind: lexi.End}
	}
	return l.Tokens[l.At]
}

// Is reports whether the next token is that one.
func (l *List) Is(kind int, text string) bool {
	t := l.Peek()
	return t.Kind == kind && t.Text == text
}

// Accept reads the next token if it is that one, and reports whether it is.
func (l *List) Accept(kind int, text string) bool {
	yes := l.Is(kind, text)
	if yes {
		l.At++
	}
	return yes
}

// Whole returns what take reads from the tokens of s, all of them, and len(s), or an error and its offset. take begins at a token, and returns the index of the token after what it has read, or an error and the index of its token.
func Whole[T any](s string, take func(l []lexi.Token, i int) (T, int, api.Errno)) (x T, at int, e api.Errno) {
	var none T
	l, at, e := lexi.All(s)
	if e != api.OK {
		return none, at, e
	}
	x, next, e := take(l, 0)
	switch {
	case e != api.OK:
		return none, Offset(s, l, next), e
	case next < len(l):
		return none, Offset(s, l, next), api.ErrSyntax
	}
	return x, len(s), api.OK
}

// Offset returns the offset of the token at index i in s, whose tokens are l; at the end of the list it is the length of s.
func Offset(s string, l []lexi.Token, i int) int {
	if i < len(l) {
		return l[i].At
	}
	return len(s)
}
