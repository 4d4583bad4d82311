package bind

import (
	"iter"

	"consort/api"
)

// having is what nodes of a kind have. Its type says what their number is, and
// a node with the number n has so many kids in a program.
type having interface {
	kids(p api.BindProg, n int) int
}

// Of those that are numbers themselves these say how many Kids there are.
type (
	nothing int      // no number (0)
	integer struct{} // an integer
	place   struct{} // a place in the environment
	slot    int      // a slot
	gen     struct{} // a function
	class   int      // a class
	binding struct{} // no number, but one more place for the second Kid
)

func (h nothing) kids(api.BindProg, int) int { return int(h) }

func (integer) kids(api.BindProg, int) int { return 0 }

func (place) kids(api.BindProg, int) int { return 0 }

func (h slot) kids(api.BindProg, int) int { return int(h) }

func (gen) kids(p api.BindProg, n int) int { return p.Gens[n] }

func (h class) kids(api.BindProg, int) int { return int(h) }

func (binding) kids(api.BindProg, int) int { return 2 }

// hasOf returns what nodes of a kind have, nil for what is no kind.
func hasOf(op api.FormOp) having {
	switch op {
	case api.FormInt:
		return integer{}
	case api.FormNone, api.FormNext:
		return nothing(0)
	case api.FormName:
		return place{}
	case api.FormSlot:
		return slot(1)
	case api.FormSet:
		return slot(2)
	case api.FormCall:
		return gen{}
	case api.FormNew:
		return class(0)
	case api.FormTurn:
		return class(1)
	case api.FormLet:
		return binding{}
	case api.FormOut:
		return nothing(1)
	case api.FormSeq, api.FormAdd, api.FormSub, api.FormMul, api.FormLess, api.FormSame:
		return nothing(2)
	case api.FormIf:
		return nothing(3)
	}
	return nil
}

// spot is where a node stands: how deep below the node from which one came
// (itself: 1), and how many places its environment has.
type spot struct {
	depth, size int
}

// below yields a node and all nodes below it, each ahead of its Kids. No node
// is looked at before it was yielded, so whoever goes through what was not
// examined can stop at a number that is no node, or that was met before.
func below(nodes []api.BindNode, root, size int) iter.Seq2[int, spot] {
	return func(yield func(int, spot) bool) {
		var walk func(at int, s spot) bool
		walk = func(at int, s spot) bool {
			if !yield(at, s) {
				return false
			}
			for i, kid := range nodes[at].Kids {
				inner := spot{s.depth + 1, s.size}
				if nodes[at].Op == api.FormLet && i == 1 {
					inner.size++
				}
				if !walk(kid, inner) {
					return false
				}
			}
			return true
		}
		walk(root, spot{1, size})
	}
}
