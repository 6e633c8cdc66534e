// Package lexi implements the lexer of the modelling language. See shared/doc/29-lexi.md.
package lexi

import (
	"strings"

	"voussoir/api"
)

// Token is a token: its kind, the value of a number, its bytes and its byte offset.
type Token struct {
	Kind, N int
	Text    string
	At      int
}

// Kinds of tokens.
const (
	Num  = 1
	Name = 2
	Word = 3
	Sign = 4
	End  = 5
)

var words = [...]string{
	"A", "AF", "AG", "AX", "E", "EF", "EG", "EX", "U", "bool", "def", "else",
	"fair", "false", "if", "init", "invar", "mod", "next", "spec", "then", "trans", "true", "var",
}

// The longer operators come first, so that the first one that matches is the longest.
var signs = [...]string{
	"<->", ":=", "->", "..", "<=", "!=",
	"=", "<", "&", "|", "!", "(", ")", "[", "]", ";", ":", ",", "+", "-", "*",
}

// Next skips white space from offset at on and returns the token that begins there, and the offset after it.
func Next(s string, at int) (t Token, next int, e api.Errno) {
	if at < 0 || at > len(s) {
		return Token{}, 0, api.ErrRange
	}
	at = skip(s, at)
	rest := s[at:]
	switch {
	case rest == "":
		t = Token{Kind: End}
	case isDigit(rest[0]):
		t, e = number(rest)
	case isLetter(rest[0]):
		t, e = name(rest)
	default:
		t, e = sign(rest)
	}
	if e != api.OK {
		return Token{}, at, e
	}
	t.At = at
	return t, at + len(t.Text), api.OK
}

// skip returns the offset of the first byte from at on that is not white space.
func skip(s string, at int) int {
again:
	at += span(s[at:], isBlank)
	if strings.HasPrefix(s[at:], "--") {
		at += span(s[at:], isRemark)
		goto again
	}
	return at
}

// span returns how many bytes at the beginning of s fit, up to the first that does not.
func span(s string, fits func(c byte) bool) int {
	for i := range len(s) {
		if !fits(s[i]) {
			return i
		}
	}
	return len(s)
}

func isBlank(c byte) bool {
	return c == ' ' || c == '\t' || c == '\n' || c == '\r'
}

func isRemark(c byte) bool {
	return c != '\n'
}

func isDigit(c byte) bool {
	return c >= '0' && c <= '9'
}

func isLetter(c byte) bool {
	return c >= 'a' && c <= 'z' || c >= 'A' && c <= 'Z'
}

func isInName(c byte) bool {
	return isLetter(c) || isDigit(c) || c == '_'
}

// number returns the number at the beginning of s.
func number(s string) (t Token, e api.Errno) {
	digits := s[:span(s, isDigit)]
	if digits[0] == '0' && len(digits) > 1 {
		return Token{}, api.ErrToken
	}
	n := 0
	for i := range len(digits) {
		n = n*10 + int(digits[i]-'0')
		if n > api.MaxValue {
			return Token{}, api.ErrRange
		}
	}
	return Token{Kind: Num, N: n, Text: digits}, api.OK
}

// name returns the name or the keyword at the beginning of s.
func name(s string) (t Token, e api.Errno) {
	text := s[:span(s, isInName)]
	if len(text) > api.MaxName {
		return Token{}, api.ErrLong
	}
	if isWord(text) {
		return Token{Kind: Word, Text: text}, api.OK
	}
	return Token{Kind: Name, Text: text}, api.OK
}

func isWord(s string) bool {
	for _, w := range words {
		if s == w {
			return true
		}
	}
	return false
}

// sign returns the operator at the beginning of s.
func sign(s string) (t Token, e api.Errno) {
	for _, text := range signs {
		if strings.HasPrefix(s, text) {
			return Token{Kind: Sign, Text: text}, api.OK
		}
	}
	return Token{}, api.ErrToken
}

// All returns all tokens except End, or the first error and its offset.
func All(s string) (l []Token, at int, e api.Errno) {
	if len(s) > api.MaxText {
		return nil, 0, api.ErrLong
	}
	for next := 0; ; {
		t, after, e := Next(s, next)
		if e != api.OK {
			return nil, after, e
		}
		if t.Kind == End {
			return l, 0, api.OK
		}
		l = append(l, t)
		next = after
	}
}

// Is reports whether s is a name.
func Is(s string) bool {
	if s == "" || len(s) > api.MaxName {
		return false
	}
	return isLetter(s[0]) && span(s, isInName) == len(s) && !isWord(s)
}

// Words returns the keywords in increasing order.
func Words() []string {
	l := make([]string, 0, len(words))
	for _, w := range words {
		l = append(l, w)
	}
	return l
}
