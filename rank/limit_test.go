package rank_test

import (
	"math/rand"
	"slices"
	"testing"

	"consort/api"
	"consort/rank"
)

// limits is a program with as many classes, slots, functions and arguments
// as there can be, but without methods.
func limits() api.BindProg {
	p := with(api.BindProg{Gens: slices.Repeat(list(api.FormArgs), api.FormGens), Slots: api.FormClasses * api.FormSlots})
	for i := range api.FormClasses {
		c := api.BindClass{}
		for slot := range api.FormSlots {
			c.Slots = append(c.Slots, i*api.FormSlots+slot)
		}
		for parent := i + 2; parent >= 3 && len(c.Parents) < api.FormParents; parent-- {
			c.Parents = append(c.Parents, parent)
		}
		p.Classes = append(p.Classes, c)
	}
	return p
}

// wanting are so many methods of a kind, the first of which is for the fewest
// arguments: their facts have as many nodes as there can be, and speak of all
// arguments, and of paths as long as they can be.
func wanting(kind api.FormKind, count int) []api.BindMethod {
	var l []api.BindMethod
	for i := range count {
		parts := []api.Fact{less(2, i), less(1, 100, 39, 0), is(0, 12), not(same(2, 50, 39, 39)), or(is(1, 11), is(1, 10))}
		parts = append(parts, slices.Repeat([]api.Fact{is(2, 0)}, 6)...)
		f := bush(and, parts...)
		if size(f) != api.FactNodes {
			panic("not as many nodes as there can be")
		}
		l = append(l, method(kind, 0, f))
	}
	return l
}

func TestLimits(t *testing.T) {
	upward := list(0, 1, 2, 3, 4, 5, 6, 7, 8, 9, 10, 11, 12, 13, 14, 15)
	r := maker{rand.New(rand.NewSource(67))}
	slots := slices.Repeat(vals(num(7)), api.FactSlots)
	slots[39] = obj(20)
	objs := slices.Repeat([]api.MeanThing{thing(12, slots...)}, api.MeanObjs)
	for kind := api.FormPrimary; kind <= kinds; kind++ {
		p := with(limits(), wanting(kind, api.FormMethods)...)
		l, torn, e := rank.Chain(p, r.shuffled(upward))
		wantText(t, "Chain", tuple(l, torn, e), tuple(upward, false, api.OK))
		l, e = rank.Befores(p, r.shuffled(upward))
		wantText(t, "Befores", tuple(l, e), tuple(upward, api.OK))
		order, e := rank.Order(p, 0, kind)
		wantText(t, "Order", tuple(len(order), order[0], order[119], e), tuple(120, list(0, 1), list(14, 15), api.OK))
		twins, e := rank.Twins(p, 0)
		wantText(t, "Twins", tuple(twins, e), tuple(list(), api.OK))
		applies, e := rank.Applies(p, objs, 0, vals(obj(0), obj(39), num(9)))
		wantText(t, "Applies", tuple(applies, e), tuple(list(10, 11, 12, 13, 14, 15), api.OK))
		last, e := rank.Order(p, 7, kind)
		wantText(t, "Order of the last function", tuple(last, e), tuple(list(), api.OK))
	}
	var mixed []api.BindMethod
	for kind := api.FormPrimary; kind <= kinds; kind++ {
		mixed = append(mixed, wanting(kind, 4)...)
	}
	p := with(limits(), mixed...)
	wanted := tuple(api.RankPlan{Arounds: list(12, 13, 14, 15), Befores: list(4, 5, 6, 7), Primaries: list(0, 1, 2, 3), Afters: list(11, 10, 9, 8)}, api.OK)
	plan, e := rank.Plan(p, r.shuffled(upward))
	wantText(t, "Plan", tuple(plan, e), wanted)
	plan, e = rank.Call(p, objs, 0, vals(obj(7), obj(8), num(-api.FormMost)))
	wantText(t, "Call", tuple(plan, e), wanted)
}

// TestSlowFacts: as many twins as there can be, whose implications have as
// many cases as facts of this length can have, all of which are gone through.
func TestSlowFacts(t *testing.T) {
	var f []api.Fact
	for arg := range api.FormArgs {
		f = append(f, or(less(arg, 3, 0, 1), or(same(arg, 4, 0, 1), same(arg, 5, 0, 1))))
	}
	f = append(f, or(is(0, 3), or(is(1, 3), is(2, 3))))
	p := with(limits(), slices.Repeat([]api.BindMethod{method(api.FormPrimary, 0, bush(and, f...))}, api.FormMethods)...)
	twins, e := rank.Twins(p, 0)
	wantText(t, "Twins", tuple(len(twins), e), tuple(120, api.OK))
	order, e := rank.Order(p, 0, api.FormPrimary)
	wantText(t, "Order", tuple(len(order), e), tuple(0, api.OK))
	chain, torn, e := rank.Chain(p, list(2, 1, 0))
	wantText(t, "Chain", tuple(chain, torn, e), tuple(list(), true, api.OK))
	befores, e := rank.Befores(p, list(15, 4, 2, 8, 0))
	wantText(t, "Befores", tuple(befores, e), tuple(list(0, 2, 4, 8, 15), api.OK))
}

// TestBehindLimits: programs with one more of something are not formed.
func TestBehindLimits(t *testing.T) {
	deep := yes()
	for range api.FormDepth - 1 {
		deep = not(deep)
	}
	p := limits()
	p.Gens = p.Gens[1:]
	for i, by := range []func(p *api.BindProg){
		func(p *api.BindProg) { *p = with(*p, wanting(api.FormBefore, api.FormMethods+1)...) },
		func(p *api.BindProg) {
			*p = with(*p, method(api.FormPrimary, 0, not(wanting(api.FormPrimary, 1)[0].Fact)))
		},
		func(p *api.BindProg) { *p = with(*p, method(api.FormPrimary, 0, not(deep))) },
		func(p *api.BindProg) { *p = with(*p, method(api.FormPrimary, 0, is(0, 3, 0, 1, 2))) },
		func(p *api.BindProg) { p.Gens = append(p.Gens, 1, 2) },
		func(p *api.BindProg) { p.Gens = list(api.FormArgs + 1) },
		func(p *api.BindProg) { p.Gens = list(0) },
		func(p *api.BindProg) { p.Classes = append(p.Classes, api.BindClass{}) },
	} {
		q := p
		q.Gens, q.Classes = slices.Clone(p.Gens), slices.Clone(p.Classes)
		wantRefused(t, i, "the program", with(q, method(api.FormPrimary, 0, deep)), api.OK)
		by(&q)
		wantRefused(t, i, "one with more", q, api.ErrArg)
	}
}

// wantRefused wants an error of all functions for a program, or none.
func wantRefused(t *testing.T, i int, what string, p api.BindProg, e api.Errno) {
	t.Helper()
	x := given{p: p, kind: api.FormPrimary, args: slices.Repeat([]api.MeanVal{num(0)}, api.FormArgs), l: list(0)}
	if len(p.Gens) > 0 {
		x.args = slices.Repeat([]api.MeanVal{num(0)}, max(0, p.Gens[0]))
	}
	for _, l := range results(x) {
		got := l[len(l)-1].(api.Errno)
		if e == api.OK && got == api.ErrNone {
			got = e // there are no primary methods that apply
		}
		if got != e {
			t.Errorf("%d: %s: the error %d, not %d", i, what, got, e)
		}
	}
}
