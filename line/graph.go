package line

import "consort/api"

// graph is a class graph that is formed, with what is above and below each of
// its classes, and the linear orders that were found.
type graph struct {
	parents [][]int // of each class, also of any, int and none
	above   []set
	below   []set
	orders  map[int][]int
}

// open returns a graph, unless it is not formed or does not have some classes.
func open(g [][]int, classes ...int) (*graph, api.Errno) {
	if !formed(g) {
		return nil, api.ErrArg
	}
	o := &graph{
		parents: append(make([][]int, firstClass), g...),
		orders:  map[int][]int{},
	}
	for _, c := range classes {
		if !o.has(c) {
			return nil, api.ErrArg
		}
	}
	o.findAbove()
	o.findBelow()
	return o, api.OK
}

// openWith does so for the list of classes of which there is something in common.
func openWith(g [][]int, l []int) (*graph, api.Errno) {
	if len(l) > api.LineClasses {
		return nil, api.ErrArg
	}
	return open(g, l...)
}

func formed(g [][]int) bool {
	if len(g) > api.LineClasses {
		return false
	}
	for i, parents := range g {
		if !canBeParents(parents, firstClass+i) {
			return false
		}
	}
	return true
}

func canBeParents(l []int, class int) bool {
	if len(l) > api.FormParents {
		return false
	}
	var met set
	for _, p := range l {
		if p < firstClass || p >= class || met.has(p) {
			return false
		}
		met = met.with(p)
	}
	return true
}

func (g *graph) has(class int) bool { return 0 <= class && class < len(g.parents) }

// findAbove finds what is above each class. Parents are less than their
// class, so what is above them is known when it is asked for.
func (g *graph) findAbove() {
	for class, parents := range g.parents {
		s := setOf(anyClass, class)
		for _, p := range parents {
			s = s.join(g.above[p])
		}
		g.above = append(g.above, s)
	}
}

func (g *graph) findBelow() {
	g.below = make([]set, len(g.parents))
	for class, above := range g.above {
		for _, c := range above.list() {
			g.below[c] = g.below[c].with(class)
		}
	}
}

// common returns what is in the sets of all classes of a list; of no classes
// all classes of the graph.
func (g *graph) common(sets []set, l []int) set {
	s := g.below[anyClass]
	for _, c := range l {
		s = s.meet(sets[c])
	}
	return s
}

// least returns the classes of a set below which no other one of it is.
func (g *graph) least(s set) set {
	var out set
	for _, c := range s.list() {
		if s.meet(g.below[c]) == setOf(c) {
			out = out.with(c)
		}
	}
	return out
}
