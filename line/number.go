package line

import (
	"cmp"
	"iter"
	"slices"

	"consort/api"
)

// trunk returns of which class another one but any is a branch in the tree of a graph.
func (g *graph) trunk(class int) int {
	if len(g.parents[class]) == 0 {
		return anyClass
	}
	return g.parents[class][0]
}

// tree goes through a class and all that is in it in the tree of a graph.
func (g *graph) tree(class int) iter.Seq[int] {
	return func(yield func(int) bool) {
		if !yield(class) {
			return
		}
		for branch := class + 1; branch < len(g.parents); branch++ {
			if g.trunk(branch) != class {
				continue
			}
			for c := range g.tree(branch) {
				if !yield(c) {
					return
				}
			}
		}
	}
}

// positions returns where each class stands in a list, and whether this is a numbering.
func (g *graph) positions(numbering []int) ([]int, bool) {
	if len(numbering) != len(g.parents) {
		return nil, false
	}
	var met set
	at := make([]int, len(numbering))
	for i, c := range numbering {
		if !g.has(c) || met.has(c) {
			return nil, false
		}
		met = met.with(c)
		at[c] = i
	}
	return at, true
}

// pick returns what a list has at the places of a set.
func pick(l []int, places set) []int {
	var out []int
	for _, i := range places.list() {
		out = append(out, l[i])
	}
	return out
}

func sorted[T cmp.Ordered](l []T) []T {
	out := slices.Clone(l)
	slices.Sort(out)
	return out
}

// spansOf returns positions, all different, as intervals, as few as can be.
func spansOf(positions []int) []api.LineSpan {
	var spans []api.LineSpan
	for _, at := range sorted(positions) {
		last := len(spans) - 1
		if last >= 0 && spans[last].High == at-1 {
			spans[last].High = at
		} else {
			spans = append(spans, api.LineSpan{Low: at, High: at})
		}
	}
	return spans
}

// increasing reports whether each of some intervals stands behind the one before it.
func increasing(spans []api.LineSpan) bool {
	for i, s := range spans {
		if s.Low > s.High || i > 0 && s.Low <= spans[i-1].High {
			return false
		}
	}
	return true
}
