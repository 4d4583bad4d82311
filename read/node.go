package read

import (
	"iter"

	"consort/api"
)

// node is a node of a fact or of an expression: what it says, without its
// Kids, and where it stands.
type node[T any] struct {
	says T
	spot api.ReadSpot
	wide api.ReadSpot // with the brackets around it
	kids []*node[T]
}

// made makes a node that goes from a byte to the last token that was taken.
func made[T any](r *reader, from int, says T, kids ...*node[T]) *node[T] {
	spot := api.ReadSpot{From: from, To: r.behind}
	return &node[T]{says: says, spot: spot, wide: spot, kids: kids}
}

// bracketed reads a node in brackets.
func bracketed[T any](r *reader, read func() *node[T]) *node[T] {
	from := r.need("(").At
	n := read()
	r.need(")")
	n.wide = api.ReadSpot{From: from, To: r.behind}
	return n
}

// all yields a node and those below it, each ahead of its Kids.
func (n *node[T]) all() iter.Seq[*node[T]] {
	return func(yield func(*node[T]) bool) {
		var walk func(n *node[T]) bool
		walk = func(n *node[T]) bool {
			if !yield(n) {
				return false
			}
			for _, kid := range n.kids {
				if !walk(kid) {
					return false
				}
			}
			return true
		}
		walk(n)
	}
}

// addSpots adds the spots of a node and of those below it.
func addSpots[T any](r *reader, n *node[T]) {
	for below := range n.all() {
		r.spots = append(r.spots, below.spot)
	}
}

func factOf(n *node[api.FormFact]) api.FormFact {
	f := n.says
	for _, kid := range n.kids {
		f.Kids = append(f.Kids, factOf(kid))
	}
	return f
}

func expOf(n *node[api.FormExp]) api.FormExp {
	e := n.says
	for _, kid := range n.kids {
		e.Kids = append(e.Kids, expOf(kid))
	}
	return e
}
