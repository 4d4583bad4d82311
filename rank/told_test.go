package rank_test

import (
	"slices"

	"consort/api"
	"consort/bind"
	"consort/fact"
)

// told is what the definitions of the chapter say of a formed program, followed
// word by word.
type told struct {
	p     api.BindProg
	world api.FactWorld
	fact  [][]bool // the fact of a method implies that of another one
}

func tell(p api.BindProg) told {
	w, e := bind.World(p)
	if e != api.OK {
		panic("a program that is not formed")
	}
	o := told{p: p, world: w}
	for _, m := range p.Methods {
		var row []bool
		for _, n := range p.Methods {
			is, _ := fact.Implies(w, m.Fact, n.Fact)
			row = append(row, is)
		}
		o.fact = append(o.fact, row)
	}
	return o
}

func (o told) implies(m, n int) bool { return o.alike(m, n) && o.fact[m][n] }

func (o told) alike(m, n int) bool {
	return o.p.Methods[m].Gen == o.p.Methods[n].Gen && o.p.Methods[m].Kind == o.p.Methods[n].Kind
}

func (o told) ahead(m, n int) bool { return o.implies(m, n) && !o.implies(n, m) }

// pairs are all pairs of methods of a function, sorted, that are so.
func (o told) pairs(gen int, are func(m, n int) bool) [][2]int {
	var l [][2]int
	for m := range o.p.Methods {
		for n := range o.p.Methods {
			if o.p.Methods[m].Gen == gen && o.p.Methods[n].Gen == gen && are(m, n) {
				l = append(l, [2]int{m, n})
			}
		}
	}
	return l
}

func (o told) order(gen int, kind api.FormKind) [][2]int {
	return o.pairs(gen, func(m, n int) bool { return o.p.Methods[m].Kind == kind && o.ahead(m, n) })
}

func (o told) twins(gen int) [][2]int {
	return o.pairs(gen, func(m, n int) bool { return m < n && o.implies(m, n) && o.implies(n, m) })
}

func (o told) applies(objs []api.MeanThing, gen int, args []api.MeanVal) []int {
	var l []int
	for i, m := range o.p.Methods {
		if m.Gen != gen {
			continue
		}
		holds, e := fact.Holds(o.world, m.Fact, objs, args)
		if e != api.OK {
			panic("arguments that are not formed")
		}
		if holds {
			l = append(l, i)
		}
	}
	return l
}

// left is a list without a method.
func left(l []int, m int) []int {
	return slices.DeleteFunc(slices.Clone(l), func(n int) bool { return n == m })
}

func (o told) chain(l []int) ([]int, bool) {
	for _, m := range l {
		others := left(l, m)
		ahead := 0
		for _, n := range others {
			if o.ahead(m, n) {
				ahead++
			}
		}
		if ahead == len(others) {
			chain, torn := o.chain(others)
			return append([]int{m}, chain...), torn
		}
	}
	return nil, len(l) > 0
}

func (o told) befores(l []int) []int {
	first := -1
	for _, m := range l {
		free := true
		for _, n := range l {
			free = free && !o.ahead(n, m)
		}
		if free && (first < 0 || m < first) {
			first = m
		}
	}
	if first < 0 {
		return nil
	}
	return append([]int{first}, o.befores(left(l, first))...)
}

func (o told) plan(l []int) (api.RankPlan, api.Errno) {
	of := func(kind api.FormKind) []int {
		var out []int
		for _, m := range l {
			if o.p.Methods[m].Kind == kind {
				out = append(out, m)
			}
		}
		return out
	}
	if len(of(api.FormPrimary)) == 0 {
		return api.RankPlan{}, api.ErrNone
	}
	var p api.RankPlan
	p.Arounds, p.AroundTorn = o.chain(of(api.FormAround))
	p.Primaries, p.Torn = o.chain(of(api.FormPrimary))
	p.Befores = o.befores(of(api.FormBefore))
	for _, m := range o.befores(of(api.FormAfter)) {
		p.Afters = append([]int{m}, p.Afters...)
	}
	return p, api.OK
}
