package read

import (
	"consort/api"
)

// text is what a source is cut into.
type text struct {
	rest
	wrong []api.ReadToken // the wrong bytes
}

// cutText cuts a source.
func cutText(source string) (text, api.Errno) {
	if len(source) > api.ReadLong {
		return text{}, api.ErrLong
	}
	t := text{rest: rest{end: api.ReadToken{At: len(source), Line: 1 + lines(source)}}}
	for token := range tokens(source) {
		if token.Kind == wrong {
			t.wrong = append(t.wrong, token)
		} else {
			t.tokens = append(t.tokens, token)
		}
	}
	return t, api.OK
}

// cutRight cuts a source without wrong bytes.
func cutRight(source string) (text, api.Errno) {
	t, e := cutText(source)
	if e != api.OK {
		return text{}, e
	}
	if len(t.wrong) > 0 {
		return text{}, api.ErrText
	}
	return t, api.OK
}
