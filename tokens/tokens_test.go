package tokens_test

import (
	"testing"

	"voussoir/api"
	"voussoir/lexi"
	"voussoir/tokens"
)

func TestList(t *testing.T) {
	l := tokens.List{Tokens: []lexi.Token{{Kind: lexi.Sign, Text: "!"}, {Kind: lexi.Name, Text: "a"}}}
	for _, x := range []struct {
		kind int
		text string
		yes  bool
	}{{lexi.Word, "!", false}, {lexi.Sign, "&", false}, {lexi.Sign, "!", true}, {lexi.Sign, "!", false}, {lexi.Name, "a", true}, {lexi.Name, "a", false}} {
		at := l.At
		if l.Is(x.kind, x.text) != x.yes || l.At != at || l.Accept(x.kind, x.text) != x.yes || (l.At == at+1) != x.yes {
			t.Errorf("%v at %d", x, at)
		}
	}
	if end := l.Peek(); l.At != 2 || end != (lexi.Token{Kind: lexi.End}) {
		t.Error(l.At, end)
	}
}

// two reads two names.
func two(l []lexi.Token, i int) (s string, next int, e api.Errno) {
	for ; i < len(l) && l[i].Kind == lexi.Name && next < 2; i++ {
		s += l[i].Text
		next++
	}
	if next < 2 {
		return s, i, api.ErrName
	}
	return s, i, api.OK
}

func TestWhole(t *testing.T) {
	for _, x := range []struct {
		text, want string
		at         int
		e          api.Errno
	}{
		{" a b ", "ab", 5, api.OK}, {"a b", "ab", 3, api.OK}, {"a b c", "", 4, api.ErrSyntax}, {"a  1 c", "", 3, api.ErrName}, {"a ", "", 2, api.ErrName}, {"", "", 0, api.ErrName}, {"a b ?", "", 4, api.ErrToken}, {"1 01", "", 2, api.ErrToken},
	} {
		if got, at, e := tokens.Whole(x.text, two); got != x.want || at != x.at || e != x.e {
			t.Errorf("%q: %q, %d, %d; want %q, %d, %d", x.text, got, at, e, x.want, x.at, x.e)
		}
	}
}

func TestOffset(t *testing.T) {
	l, _, _ := lexi.All("a  b ")
	for i, want := range []int{0, 3, 5} {
		if got := tokens.Offset("a  b ", l, i); got != want {
			t.Errorf("token %d is at %d; want %d", i, got, want)
		}
	}
}
