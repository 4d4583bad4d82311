package fact

import (
	"iter"
	"slices"

	"consort/api"
)

// place is a path of an argument.
type place struct {
	arg   int
	deep  int // how many slots it has
	slots [api.FormPath]int
}

func placeOf(arg int, path []int) place {
	p := place{arg: arg, deep: len(path)}
	copy(p.slots[:], path)
	return p
}

func (p place) path() []int { return append([]int(nil), p.slots[:p.deep]...) }

// last returns the last slot of a path, and the path without it.
func (p place) last() (int, place) {
	slot := p.slots[p.deep-1]
	return slot, placeOf(p.arg, p.slots[:p.deep-1])
}

// literal is a FactIs, FactLess or FactSame, or, unless it is so, the FactNot of one.
type literal struct {
	so    bool
	op    api.FactOp
	at    place
	class int
	n     int
}

func literalOf(f api.Fact, so bool) literal {
	return literal{so: so, op: f.Op, at: placeOf(f.Arg, f.Path), class: f.Class, n: f.N}
}

func (l literal) fact() api.Fact {
	f := api.Fact{Op: l.op, Arg: l.at.arg, Path: l.at.path(), Class: l.class, N: l.n}
	if l.so {
		return f
	}
	return not(f)
}

func factsOf(l []literal) []api.Fact {
	var out []api.Fact
	for _, x := range l {
		out = append(out, x.fact())
	}
	return out
}

// with returns a list with a literal behind it, unless it stands there already.
// Cases that begin alike share that beginning, so no list is changed.
func with(l []literal, x literal) []literal {
	if slices.Contains(l, x) {
		return l
	}
	return append(slices.Clip(l), x)
}

// cases goes through the cases of a fact, in order.
func cases(f api.Fact) iter.Seq[[]literal] {
	return func(yield func([]literal) bool) {
		// follow hands the cases of a fact, or, unless it should be so, of its
		// contrary, to what comes then, each behind the literals that stand ahead.
		var follow func(f api.Fact, so bool, ahead []literal, then func([]literal) bool) bool
		follow = func(f api.Fact, so bool, ahead []literal, then func([]literal) bool) bool {
			switch f.Op {
			case api.FactTrue:
				return !so || then(ahead)
			case api.FactNot:
				return follow(f.Kids[0], !so, ahead, then)
			case api.FactAnd, api.FactOr:
				if so == (f.Op == api.FactOr) {
					return follow(f.Kids[0], so, ahead, then) && follow(f.Kids[1], so, ahead, then)
				}
				second := func(l []literal) bool { return follow(f.Kids[1], so, l, then) }
				return follow(f.Kids[0], so, ahead, second)
			}
			return then(with(ahead, literalOf(f, so)))
		}
		follow(f, true, nil, yield)
	}
}
