package rank

import (
	"iter"
	"slices"

	"consort/api"
	"consort/bind"
	"consort/fact"
)

// ranks is a program that is formed, with its world, and which of its methods
// were found to imply which others, or not to.
type ranks struct {
	api.BindProg
	world api.FactWorld
	found map[[2]int]bool
}

// open returns a program, unless it is not formed.
func open(p api.BindProg) (*ranks, api.Errno) {
	world, e := bind.World(p)
	if e != api.OK {
		return nil, e
	}
	return &ranks{BindProg: p, world: world, found: map[[2]int]bool{}}, api.OK
}

// openGen returns a program, unless it is not formed or does not have a function.
func openGen(p api.BindProg, gen int) (*ranks, api.Errno) {
	o, e := open(p)
	if e == api.OK && !isIndex(gen, len(p.Gens)) {
		return nil, api.ErrArg
	}
	return o, e
}

// openCall returns a program, unless something of a call is not formed.
func openCall(p api.BindProg, objs []api.MeanThing, gen int, args []api.MeanVal) (*ranks, api.Errno) {
	o, e := openGen(p, gen)
	if e != api.OK {
		return nil, e
	}
	// The function may be without methods whose facts would be asked.
	_, e = fact.Holds(o.world, api.Fact{Op: api.FactTrue}, objs, args)
	if e != api.OK || len(args) != p.Gens[gen] {
		return nil, api.ErrArg
	}
	return o, api.OK
}

// openList returns a program, unless it is not formed, or some numbers are not
// different methods of it, each of which fits with the first one.
func openList(p api.BindProg, l []int, fit func(o *ranks, m, n int) bool) (*ranks, api.Errno) {
	o, e := open(p)
	if e != api.OK {
		return nil, e
	}
	for i, m := range l {
		if !o.isMethod(m) || slices.Contains(l[:i], m) || !fit(o, l[0], m) {
			return nil, api.ErrArg
		}
	}
	return o, api.OK
}

func (o *ranks) isMethod(m int) bool { return isIndex(m, len(o.Methods)) }

func (o *ranks) sameGen(m, n int) bool { return o.Methods[m].Gen == o.Methods[n].Gen }

// alike reports whether methods are of the same function and kind.
func (o *ranks) alike(m, n int) bool {
	return o.sameGen(m, n) && o.Methods[m].Kind == o.Methods[n].Kind
}

// methods yields the methods of a function, increasing.
func (o *ranks) methods(gen int) iter.Seq[int] {
	return func(yield func(int) bool) {
		for m, method := range o.Methods {
			if method.Gen == gen && !yield(m) {
				return
			}
		}
	}
}

// pairs returns all pairs of methods of a function that are of the same kind, sorted.
func (o *ranks) pairs(gen int) [][2]int {
	var l [][2]int
	for m := range o.methods(gen) {
		for n := range o.methods(gen) {
			if o.alike(m, n) {
				l = append(l, [2]int{m, n})
			}
		}
	}
	return l
}

func isIndex(n, length int) bool { return 0 <= n && n < length }
