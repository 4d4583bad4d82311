package read

import "consort/api"

// text is what a source is cut into. It ends at the first wrong byte, if there
// is one: no fault stands behind it, for something can come next ahead of a
// fault, and nothing can behind a wrong byte.
type text struct {
	rest
	broken bool // what stands at its end is a wrong byte
}

// cutText cuts a source.
func cutText(source string) (text, api.Errno) {
	if len(source) > api.ReadLong {
		return text{}, api.ErrLong
	}
	t := text{rest: rest{end: api.ReadToken{At: len(source), Line: 1 + lines(source)}}}
	for token := range tokens(source) {
		if token.Kind == wrong {
			t.end, t.broken = token, true
		} else {
			t.tokens = append(t.tokens, token)
		}
	}
	return t, api.OK
}

// cutRight cuts a source without wrong bytes.
func cutRight(source string) (text, api.Errno) {
	t, e := cutText(source)
	if e != api.OK {
		return text{}, e
	}
	if t.broken {
		return text{}, api.ErrText
	}
	return t, api.OK
}
