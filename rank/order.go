package rank

import (
	"slices"

	"consort/api"
	"consort/fact"
)

func (o *ranks) implies(m, n int) bool {
	pair := [2]int{m, n}
	is, known := o.found[pair]
	if !known {
		is, _ = fact.Implies(o.world, o.Methods[m].Fact, o.Methods[n].Fact)
		o.found[pair] = is
	}
	return is
}

func (o *ranks) ahead(m, n int) bool { return o.implies(m, n) && !o.implies(n, m) }

func (o *ranks) applies(objs []api.MeanThing, gen int, args []api.MeanVal) []int {
	return filter(slices.Collect(o.methods(gen)), func(m int) bool {
		holds, _ := fact.Holds(o.world, o.Methods[m].Fact, objs, args)
		return holds
	})
}

// taken takes again and again the first method that can come next from a list,
// until none is left that can. It returns them, and what is left.
func taken(left []int, canCome func(m int, left []int) bool) (out, rest []int) {
taking:
	for {
		for _, m := range left {
			if canCome(m, left) {
				out = append(out, m)
				left = filter(left, func(n int) bool { return n != m })
				continue taking
			}
		}
		break taking
	}
	return out, left
}

// chain returns the chain of some methods, and whether it is torn.
func (o *ranks) chain(l []int) ([]int, bool) {
	chain, torn := taken(l, func(m int, left []int) bool {
		isNotBehind := func(n int) bool { return n != m && !o.ahead(m, n) }
		return !slices.ContainsFunc(left, isNotBehind)
	})
	return chain, len(torn) > 0
}

// befores returns the order that some methods have as before methods.
func (o *ranks) befores(l []int) []int {
	order, _ := taken(slices.Sorted(slices.Values(l)), func(m int, left []int) bool {
		isAhead := func(n int) bool { return o.ahead(n, m) }
		return !slices.ContainsFunc(left, isAhead)
	})
	return order
}

func (o *ranks) afters(l []int) []int {
	order := o.befores(l)
	slices.Reverse(order)
	return order
}

// plan returns the plan of some methods, unless none of them is primary.
func (o *ranks) plan(l []int) (api.RankPlan, api.Errno) {
	var kinds [api.FormAround + 1][]int
	for _, m := range l {
		kind := o.Methods[m].Kind
		kinds[kind] = append(kinds[kind], m)
	}
	if len(kinds[api.FormPrimary]) == 0 {
		return api.RankPlan{}, api.ErrNone
	}
	var p api.RankPlan
	p.Arounds, p.AroundTorn = o.chain(kinds[api.FormAround])
	p.Befores = o.befores(kinds[api.FormBefore])
	p.Primaries, p.Torn = o.chain(kinds[api.FormPrimary])
	p.Afters = o.afters(kinds[api.FormAfter])
	return p, api.OK
}
