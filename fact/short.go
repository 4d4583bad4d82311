package fact

import (
	"iter"
	"slices"

	"consort/api"
)

// short returns a fact, made short. What it returns may share memory with the fact.
func (w *world) short(f api.Fact) api.Fact {
search:
	for {
		for g := range changed(f) {
			if w.implies(f, g) && w.implies(g, f) {
				f = g
				continue search
			}
		}
		return f
	}
}

// changed goes through the facts that a fact becomes when something else is put
// in place of one of its nodes, in the order of steps.
func changed(f api.Fact) iter.Seq[api.Fact] {
	return func(yield func(api.Fact) bool) {
		for _, g := range instead(f) {
			if !yield(g) {
				return
			}
		}
		for i, kid := range f.Kids {
			for g := range changed(kid) {
				if !yield(withKid(f, i, g)) {
					return
				}
			}
		}
	}
}

// instead returns what a step can put in place of a node.
func instead(f api.Fact) []api.Fact {
	yes := api.Fact{Op: api.FactTrue}
	if f.Op == api.FactTrue {
		return nil
	}
	l := []api.Fact{yes}
	if f.Op != api.FactNot || f.Kids[0].Op != api.FactTrue {
		l = append(l, not(yes))
	}
	return append(l, f.Kids...)
}

// withKid returns a node with another one of its Kids.
func withKid(f api.Fact, i int, kid api.Fact) api.Fact {
	f.Kids = slices.Clone(f.Kids)
	f.Kids[i] = kid
	return f
}
