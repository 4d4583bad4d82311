package line_test

import (
	"iter"
	"slices"
)

// told is what the definitions of the chapter say of a formed graph, followed
// word by word.
type told struct {
	parents [][]int
	below   [][]bool
	lin     [][]int // nothing: there is none
}

func tell(g [][]int) told {
	o := told{parents: append([][]int{nil, nil, nil}, g...)}
	n := len(o.parents)
	o.below = make([][]bool, n)
	for a := range n {
		o.below[a] = make([]bool, n)
		for b := range n {
			o.below[a][b] = a == b || b == 0 || slices.Contains(o.parents[a], b)
		}
	}
	for middle := range n {
		for a := range n {
			for b := range n {
				o.below[a][b] = o.below[a][b] || o.below[a][middle] && o.below[middle][b]
			}
		}
	}
	for class := range n {
		o.lin = append(o.lin, o.linOf(class))
	}
	return o
}

func (o told) classes() []int { return count(len(o.parents)) }

func count(n int) []int {
	var l []int
	for i := range n {
		l = append(l, i)
	}
	return l
}

func keep(l []int, is func(int) bool) []int {
	return slices.DeleteFunc(slices.Clone(l), func(c int) bool { return !is(c) })
}

func (o told) above(class int) []int {
	return keep(o.classes(), func(c int) bool { return o.below[class][c] })
}

func (o told) under(class int) []int {
	return keep(o.classes(), func(c int) bool { return o.below[c][class] })
}

func (o told) linOf(class int) []int {
	if class == 0 {
		return []int{0}
	}
	if class < 3 {
		return []int{class, 0}
	}
	lists, ok := o.lists(class)
	if !ok {
		return nil
	}
	merged, ok := mergeOf(lists)
	if !ok {
		return nil
	}
	return append(append([]int{class}, merged...), 0)
}

// lists are the lists of a class, which any, int and none do not have, unless
// a parent has no linear order.
func (o told) lists(class int) (lists [][]int, ok bool) {
	if class < 3 {
		return nil, true
	}
	for _, p := range o.parents[class] {
		if o.lin[p] == nil {
			return nil, false
		}
		lists = append(lists, keep(o.lin[p], func(c int) bool { return c != 0 }))
	}
	return append(lists, o.parents[class]), true
}

func mergeOf(lists [][]int) (merged []int, ok bool) {
	for {
		lists = slices.DeleteFunc(slices.Clone(lists), func(l []int) bool { return len(l) == 0 })
		if len(lists) == 0 {
			return merged, true
		}
		next := slices.IndexFunc(lists, func(l []int) bool {
			return !slices.ContainsFunc(lists, func(m []int) bool { return slices.Index(m, l[0]) > 0 })
		})
		if next < 0 {
			return nil, false
		}
		head := lists[next][0]
		merged = append(merged, head)
		for i, l := range lists {
			lists[i] = keep(l, func(c int) bool { return c != head })
		}
	}
}

func precedes(lists [][]int, a, b int) bool {
	return slices.ContainsFunc(lists, func(l []int) bool {
		return slices.Contains(l, a) && slices.Index(l, a) < slices.Index(l, b)
	})
}

func different(l []int) bool {
	for i, x := range l {
		if slices.Index(l, x) != i {
			return false
		}
	}
	return true
}

func (o told) isRing(class int, ring []int) bool {
	lists, _ := o.lists(class)
	for i, c := range ring {
		if !precedes(lists, c, ring[(i+1)%len(ring)]) {
			return false
		}
	}
	return len(ring) >= 2 && different(ring)
}

func (o told) agrees(class int, l []int) bool {
	if len(l) == 0 || l[0] != class || l[len(l)-1] != 0 || !different(l) {
		return false
	}
	if !slices.Equal(slices.Sorted(slices.Values(l)), o.above(class)) {
		return false
	}
	lists, _ := o.lists(class)
	for i, ahead := range l {
		for _, behind := range l[i+1:] {
			if precedes(lists, behind, ahead) {
				return false
			}
		}
	}
	return true
}

// selections are all lists of so many elements of a list, each once, in
// lexicographic order if the list is increasing.
func selections(l []int, length int) iter.Seq[[]int] {
	return func(yield func([]int) bool) {
		if length == 0 {
			yield(nil)
			return
		}
		for first := range l {
			rest := slices.Delete(slices.Clone(l), first, first+1)
			for s := range selections(rest, length-1) {
				if !yield(append([]int{l[first]}, s...)) {
					return
				}
			}
		}
	}
}

// conflict is the first ring of the first class without a linear order.
func (o told) conflict() (class int, ring []int, is bool) {
	class = slices.IndexFunc(o.lin, func(l []int) bool { return l == nil })
	if class < 0 {
		return 0, nil, false
	}
	for length := 2; ; length++ {
		for ring := range selections(o.above(class), length) {
			if o.isRing(class, ring) {
				return class, ring, true
			}
		}
	}
}

func (o told) heirs(l []int) []int {
	return keep(o.classes(), func(c int) bool {
		return !slices.ContainsFunc(l, func(x int) bool { return !o.below[c][x] })
	})
}

func (o told) least(l []int) []int {
	above := keep(o.classes(), func(c int) bool {
		return !slices.ContainsFunc(l, func(x int) bool { return !o.below[x][c] })
	})
	return keep(above, func(c int) bool {
		return !slices.ContainsFunc(above, func(x int) bool { return x != c && o.below[x][c] })
	})
}

// number orders classes by what they are in, from any to themselves.
func (o told) number() []int {
	ways := [][]int{{0}}
	for c := 1; c < len(o.parents); c++ {
		trunk := 0
		if c >= 3 && len(o.parents[c]) > 0 {
			trunk = o.parents[c][0]
		}
		ways = append(ways, append(slices.Clone(ways[trunk]), c))
	}
	slices.SortFunc(ways, slices.Compare[[]int])
	var l []int
	for _, way := range ways {
		l = append(l, way[len(way)-1])
	}
	return l
}
