package read

import (
	"maps"
	"slices"
	"strings"

	"consort/api"
)

// rest is what is left of some tokens.
type rest struct {
	tokens []api.ReadToken
	end    api.ReadToken // what stands behind all of them
	behind int           // the byte behind the last one that was taken
}

// first returns the token that comes next.
func (r *rest) first() api.ReadToken {
	if len(r.tokens) == 0 {
		return r.end
	}
	return r.tokens[0]
}

// take takes the token that comes next; there must be one.
func (r *rest) take() api.ReadToken {
	t := r.tokens[0]
	r.tokens = r.tokens[1:]
	r.behind = t.At + len(t.Text)
	return t
}

// split takes a number of tokens away, as a rest of their own.
func (r *rest) split(n int) rest {
	piece := rest{tokens: r.tokens[:n], end: r.end}
	r.tokens = r.tokens[n:]
	piece.end = r.first()
	return piece
}

// What is asked for stands for tokens: nothing for the end, anyInt for each
// integer, anyName for each name, all other texts for themselves.
const (
	theEnd  = ""
	anyInt  = "0"
	anyName = "a"
)

func keyOf(t api.ReadToken) string {
	switch t.Kind {
	case api.ReadInt:
		return anyInt
	case api.ReadName:
		return anyName
	}
	return t.Text
}

// key returns what is to be asked for so that the next token is it.
func (r *rest) key() string {
	if len(r.tokens) == 0 {
		return theEnd
	}
	return keyOf(r.tokens[0])
}

// reader reads what is left of some tokens.
type reader struct {
	rest
	asked map[string]bool // what was asked for behind the last token
	spots []api.ReadSpot  // of the nodes that were read
}

func newReader(r rest) *reader {
	return &reader{rest: r, asked: map[string]bool{}}
}

// sees reports whether one of those comes next that are asked for. All that
// could come next is asked for ahead of giving up, so that all that was asked
// for behind the last token is all that can come next there.
func (r *reader) sees(keys ...string) bool {
	if len(r.tokens) == 0 {
		for _, key := range keys {
			r.asked[key] = true
		}
	}
	return slices.Contains(keys, r.key())
}

// reads takes the next token if it is the one that is asked for.
func (r *reader) reads(key string) bool {
	if !r.sees(key) {
		return false
	}
	r.take()
	return true
}

// next returns, in its order, what was asked for behind the last token.
func (r *reader) next() []string {
	order := []string{anyInt, anyName}
	order = append(order, slices.Sorted(maps.Keys(keywords()))...)
	order = append(order, strings.Split(signs, "")...)
	order = append(order, theEnd)
	return slices.DeleteFunc(order, func(key string) bool { return !r.asked[key] })
}

// lost is what reading gives up with: the token that does not fit.
type lost struct{ at api.ReadToken }

// need takes the next token, and gives up if it is none of those that are
// asked for.
func (r *reader) need(keys ...string) api.ReadToken {
	if !r.sees(keys...) {
		panic(lost{r.first()})
	}
	return r.take()
}

// finish gives up unless all tokens are read.
func (r *reader) finish() {
	if !r.sees(theEnd) {
		panic(lost{r.first()})
	}
}

// attempt reports whether all tokens were read, or else where reading gave up.
// Nothing that goes wrong leaves it, for no exported function may panic.
func (r *reader) attempt(read func()) (at api.ReadToken, done bool) {
	defer func() {
		if x := recover(); x != nil {
			l, _ := x.(lost)
			at, done = l.at, false
		}
	}()
	read()
	r.finish()
	return api.ReadToken{}, true
}

// list reads one or more of what a method of a reader reads, with commas
// between them.
func list[T any](r *reader, read func() T) []T {
	l := []T{read()}
	for r.reads(",") {
		l = append(l, read())
	}
	return l
}

// inside reads such a list in a pair of brackets.
func inside[T any](r *reader, read func() T, open, end string) []T {
	r.need(open)
	l := list(r, read)
	r.need(end)
	return l
}
