package shape

import "iter"

// nameLetters is how many letters a name has at most.
const nameLetters = 8

// Name reports whether a string is a name.
func Name(s string) bool {
	if len(s) < 1 || len(s) > nameLetters || keyword(s) {
		return false
	}
	for i := range len(s) {
		if s[i] < 'a' || s[i] > 'z' {
			return false
		}
	}
	return true
}

func keyword(s string) bool {
	switch s {
	case "after", "and", "any", "around", "before", "class", "else", "if",
		"in", "int", "is", "let", "method", "new", "next", "none", "not",
		"or", "out", "set", "then", "true", "turn", "where":
		return true
	}
	return false
}

// Fresh returns the first name that is none of some strings.
func Fresh(l []string) string {
	taken := map[string]bool{}
	for _, s := range l {
		taken[s] = true
	}
	return firstName(taken)
}

func firstName(taken map[string]bool) string {
	for s := range names() {
		if !taken[s] {
			return s
		}
	}
	return ""
}

// names yields all names in their order.
func names() iter.Seq[string] {
	return func(yield func(string) bool) {
		for w := []byte("a"); len(w) <= nameLetters; w = nextWord(w) {
			if s := string(w); !keyword(s) && !yield(s) {
				return
			}
		}
	}
}

// nextWord makes of a word the one behind it: of words of one length in their
// order, and behind the last of these the first one that is a letter longer.
func nextWord(w []byte) []byte {
	for i := len(w) - 1; i >= 0; i-- {
		if w[i] < 'z' {
			w[i]++
			return w
		}
		w[i] = 'a'
	}
	return append(w, 'a')
}
