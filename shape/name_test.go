package shape_test

import (
	"slices"
	"strings"
	"testing"

	"consort/shape"
)

var keywords = strings.Fields("after and any around before class else if in int is let method new next none not or out set then true turn where")

func alphabet() []string {
	var l []string
	for c := 'a'; c <= 'z'; c++ {
		l = append(l, string(c))
	}
	return l
}

// words are all words of a length, in their order.
func words(length int) []string {
	l := []string{""}
	for range length {
		var longer []string
		for _, s := range l {
			for _, c := range alphabet() {
				longer = append(longer, s+c)
			}
		}
		l = longer
	}
	return l
}

func TestNamesAreShortWords(t *testing.T) {
	for _, s := range []string{"a", "z", "aa", "false", "abcdefgh", "zzzzzzzz", "afters", "nex", "wher"} {
		if !shape.Name(s) {
			t.Errorf("%q is a name", s)
		}
	}
	wrong := []string{"", "A", "aB", "a1", "1", "a b", " a", "a ", "a_", "a\x00", "é", "`", "{", "abcdefghi", strings.Repeat("a", 1000), "any\n"}
	for _, s := range append(wrong, keywords...) {
		if shape.Name(s) {
			t.Errorf("%q is no name", s)
		}
	}
	if len(keywords) != 24 {
		t.Errorf("there are %d keywords", len(keywords))
	}
}

func TestFreshIsTheFirstNameThatIsLeft(t *testing.T) {
	letters, pairs, triples := words(1), words(2), words(3)
	for i, x := range []struct {
		l    []string
		want string
	}{
		{nil, "a"},
		{[]string{}, "a"},
		{[]string{"b"}, "a"},
		{[]string{"a", "b"}, "c"},
		{[]string{"a", "a", "c", "a"}, "b"},
		{[]string{"A", "in", "", "abcdefghi"}, "a"},
		{letters[:25], "z"},
		{letters, "aa"},
		{append(words(1), "aa", "ac"), "ab"},
		{append(words(1), pairs[:26]...), "ba"},
		{slices.Concat(letters, pairs), "aaa"},
		{slices.Concat(letters, pairs, triples), "aaaa"},
	} {
		if s := shape.Fresh(x.l); s != x.want {
			t.Errorf("%d: Fresh is %q, not %q", i, s, x.want)
		}
	}
}

func TestFreshLeavesKeywordsOut(t *testing.T) {
	for _, x := range []struct{ from, want string }{{"if", "ig"}, {"in", "io"}, {"is", "it"}, {"or", "os"}} {
		pairs := words(2)
		before := pairs[:slices.Index(pairs, x.from)]
		if s := shape.Fresh(append(words(1), before...)); s != x.want {
			t.Errorf("ahead of %s: %q, not %q", x.from, s, x.want)
		}
	}
}

func TestFreshGoesThroughAllNamesInOrder(t *testing.T) {
	var taken []string
	var want []string
	for _, s := range append(words(1), words(2)...) {
		if shape.Name(s) {
			want = append(want, s)
		}
	}
	for range want {
		taken = append(taken, shape.Fresh(taken))
	}
	if !slices.Equal(taken, want) {
		t.Errorf("names in order: %q", taken)
	}
}
