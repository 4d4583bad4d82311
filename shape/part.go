package shape

import (
	"iter"

	"consort/api"
)

// part is a part of a program; what it consists of is gone through in order.
type part interface {
	size() int
	at(i int) part
}

type (
	program api.FormProg
	class   api.FormClass
	method  api.FormMethod
	fact    api.FormFact
	exp     api.FormExp
)

func (p program) size() int { return len(p.Classes) + len(p.Methods) + 1 }

func (p program) at(i int) part {
	if i < len(p.Classes) {
		return class(p.Classes[i])
	}
	if i -= len(p.Classes); i < len(p.Methods) {
		return method(p.Methods[i])
	}
	return exp(p.Main)
}

func (class) size() int { return 0 }

func (class) at(int) part { return nil }

func (method) size() int { return 2 }

func (m method) at(i int) part {
	if i == 0 {
		return fact(m.Fact)
	}
	return exp(m.Body)
}

func (f fact) size() int { return len(f.Kids) }

func (f fact) at(i int) part { return fact(f.Kids[i]) }

func (e exp) size() int { return len(e.Kids) }

func (e exp) at(i int) part { return exp(e.Kids[i]) }

// nodes yields a part and all that it consists of, each ahead of its own
// parts, with its depth below the one that was handed over (which has 1).
//
// Trees that share lists, or contain themselves, have no end: whoever goes
// through what was not examined must stop in time. No part is asked for its
// own parts before it was yielded.
func nodes(root part) iter.Seq2[part, int] {
	return func(yield func(part, int) bool) {
		var walk func(p part, depth int) bool
		walk = func(p part, depth int) bool {
			if !yield(p, depth) {
				return false
			}
			for i := range p.size() {
				if !walk(p.at(i), depth+1) {
					return false
				}
			}
			return true
		}
		walk(root, 1)
	}
}
