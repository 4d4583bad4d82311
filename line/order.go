package line

import "slices"

// order returns the linear order of a class, or nothing if it has none.
func (g *graph) order(class int) []int {
	order, known := g.orders[class]
	if !known {
		order = g.findOrder(class)
		g.orders[class] = order
	}
	return order
}

func (g *graph) findOrder(class int) []int {
	if class == anyClass {
		return []int{anyClass}
	}
	lists, ok := g.lists(class)
	if !ok {
		return nil
	}
	merged, ok := merge(lists)
	if !ok {
		return nil
	}
	order := append([]int{class}, merged...)
	return append(order, anyClass)
}

// lists returns the lists of a class, and whether all its parents have linear
// orders. Those of any, int and none have nothing in them.
func (g *graph) lists(class int) ([][]int, bool) {
	var lists [][]int
	for _, p := range g.parents[class] {
		order := g.order(p)
		if order == nil {
			return nil, false
		}
		lists = append(lists, order[:len(order)-1]) // any is the last one
	}
	return append(lists, g.parents[class]), true
}

// merge returns the merge of lists, and whether there is one.
func merge(lists [][]int) ([]int, bool) {
	left := slices.Clone(lists)
	var merged []int
merging:
	for {
		behind := behindHeads(left)
		for _, l := range left {
			if len(l) > 0 && !behind.has(l[0]) {
				merged = append(merged, l[0])
				takeOut(left, l[0])
				continue merging
			}
		}
		break merging
	}
	return merged, !slices.ContainsFunc(left, hasHead)
}

func hasHead(l []int) bool { return len(l) > 0 }

// behindHeads returns what stands in lists behind their heads.
func behindHeads(lists [][]int) set {
	var s set
	for _, l := range lists {
		if hasHead(l) {
			s = s.join(setOf(l[1:]...))
		}
	}
	return s
}

// takeOut takes a class out of lists in which it stands nowhere but at the head.
func takeOut(lists [][]int, class int) {
	for i, l := range lists {
		if hasHead(l) && l[0] == class {
			lists[i] = l[1:]
		}
	}
}
