package read

import (
	"iter"

	"consort/api"
	"consort/shape"
)

// wrong is the kind of what stands for a wrong byte behind the tokens.
const wrong api.ReadKind = 0

const newLine = '\n'

func isLetter(b byte) bool { return 'a' <= b && b <= 'z' }

func isDigit(b byte) bool { return '0' <= b && b <= '9' }

// signs are all signs, in their order.
const signs = "(){}[],;:.=<+-*"

func isSign(s string) bool {
	for i := range len(signs) {
		if s == signs[i:i+1] {
			return true
		}
	}
	return false
}

func keywords() map[string]bool {
	return map[string]bool{
		"after": true, "and": true, "any": true, "around": true, "before": true, "class": true,
		"else": true, "if": true, "in": true, "int": true, "is": true, "let": true,
		"method": true, "new": true, "next": true, "none": true, "not": true, "or": true,
		"out": true, "set": true, "then": true, "true": true, "turn": true, "where": true,
	}
}

// tokens yields the tokens of a text up to the first wrong byte, which comes
// last, as one of the kind wrong: no function asks for what stands behind it.
func tokens(source string) iter.Seq[api.ReadToken] {
	return func(yield func(api.ReadToken) bool) {
		words := keywords()
		line := 1
		for at := 0; at < len(source); {
			if long := gap(source[at:]); long > 0 {
				line += lines(source[at : at+long])
				at += long
				continue
			}
			text := source[at : at+cut(source[at:])]
			kind := kindOf(text, words)
			token := api.ReadToken{Kind: kind, Text: text, At: at, Line: line}
			if kind == wrong {
				token.Text = text[:1]
			}
			if !yield(token) || kind == wrong {
				return
			}
			at += len(text)
		}
	}
}

// gap returns how long the blank or the remark is with which a text begins.
func gap(s string) int {
	switch s[0] {
	case ' ', '\t', newLine:
		return 1
	case '%':
		return run(s, func(b byte) bool { return b != newLine })
	}
	return 0
}

// cut returns how long what is cut out at the beginning of a text is.
func cut(s string) int {
	switch {
	case isLetter(s[0]):
		return run(s, isLetter)
	case isDigit(s[0]):
		return run(s, isDigit)
	case s[0] == '~':
		return 1 + run(s[1:], isDigit)
	}
	return 1
}

// run returns how many bytes at the beginning of a text are so.
func run(s string, is func(byte) bool) int {
	n := 0
	for n < len(s) && is(s[n]) {
		n++
	}
	return n
}

func kindOf(s string, words map[string]bool) api.ReadKind {
	switch {
	case words[s]:
		return api.ReadWord
	case shape.Name(s):
		return api.ReadName
	case isInteger(s):
		return api.ReadInt
	case isSign(s):
		return api.ReadSign
	}
	return wrong
}

// isInteger reports whether what was cut out as digits, or as a ~ and digits,
// is an integer. No integer has two texts.
func isInteger(s string) bool {
	digits := s
	if s[0] == '~' {
		digits = s[1:]
	}
	if len(digits) < 1 || len(digits) > api.ReadDigit || !isDigit(digits[0]) {
		return false
	}
	return digits[0] != '0' || s == "0"
}

// lines returns how many lines end in a text.
func lines(s string) int {
	n := 0
	for i := range len(s) {
		if s[i] == newLine {
			n++
		}
	}
	return n
}
