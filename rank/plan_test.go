package rank_test

import (
	"fmt"
	"math/rand"
	"slices"
	"testing"

	"consort/api"
	"consort/rank"
)

func TestPlanExamples(t *testing.T) {
	p := exampleP()
	for _, x := range []struct {
		objs []api.MeanThing
		v    api.MeanVal
		want api.RankPlan
		e    api.Errno
	}{
		{one(4), obj(0), api.RankPlan{Befores: list(4, 3), Primaries: list(1, 0), Afters: list(5, 6)}, api.OK},
		{one(6), obj(0), api.RankPlan{Befores: list(4, 3), Torn: true, Afters: list(5, 6)}, api.OK},
		{one(3), obj(0), api.RankPlan{Befores: list(3), Primaries: list(0), Afters: list(5)}, api.OK},
		{nil, num(7), api.RankPlan{}, api.ErrNone},
	} {
		plan, e := rank.Call(p, x.objs, 0, vals(x.v))
		wantText(t, fmt.Sprint("Call with ", x.objs, x.v), tuple(plan, e), tuple(x.want, x.e))
	}
}

// TestQ: the plan of the call of the example of the whole document.
func TestQ(t *testing.T) {
	p := prog(`class a { f } [ f = 7 ] class b : a { g } class c : b, a [ f = 1 ]
		method show(x) where x is a { out(x.f) } before show(y) where y.f < 5 { let z = y in z } then show(new c)`)
	plan, e := rank.Call(p, []api.MeanThing{thing(5, num(1), none())}, 0, vals(obj(0)))
	wantText(t, "with an object of c", tuple(plan, e), tuple(api.RankPlan{Befores: list(1), Primaries: list(0)}, api.OK))
	plan, e = rank.Call(p, []api.MeanThing{thing(3, num(7))}, 0, vals(obj(0)))
	wantText(t, "with an object of a", tuple(plan, e), tuple(api.RankPlan{Primaries: list(0)}, api.OK))
	plan, e = rank.Call(p, nil, 0, vals(num(1)))
	wantText(t, "with an integer", tuple(plan, e), tuple(api.RankPlan{}, api.ErrNone))
}

// mixed has methods of all kinds: 0, 1, 2 are primary, 3, 4, 5 before, 6, 7, 8
// after, 9, 10, 11 around ones, with the facts x is a, x is b and x is c; 12
// is a method of another function.
func mixed() api.BindProg {
	source := diamond
	for _, kind := range []string{"method", "before", "after", "around"} {
		for _, class := range []string{"a", "b", "c"} {
			source += kind + " o(x) where x is " + class + " { 0 } "
		}
	}
	return prog(source + "method q(x) where true { 0 } then 0")
}

func TestPlan(t *testing.T) {
	p := mixed()
	for _, x := range []struct {
		l    string
		want api.RankPlan
		e    api.Errno
	}{
		{"0", api.RankPlan{Primaries: list(0)}, api.OK},
		{"12", api.RankPlan{Primaries: list(12)}, api.OK},
		{"0 1", api.RankPlan{Primaries: list(1, 0)}, api.OK},
		{"1 2", api.RankPlan{Torn: true}, api.OK},
		{"0 3 4 5", api.RankPlan{Befores: list(4, 5, 3), Primaries: list(0)}, api.OK},
		{"0 6 7 8", api.RankPlan{Primaries: list(0), Afters: list(6, 8, 7)}, api.OK},
		{"0 6 8", api.RankPlan{Primaries: list(0), Afters: list(6, 8)}, api.OK},
		{"0 7 8", api.RankPlan{Primaries: list(0), Afters: list(8, 7)}, api.OK},
		{"0 4 5", api.RankPlan{Befores: list(4, 5), Primaries: list(0)}, api.OK},
		{"2 9 10", api.RankPlan{Arounds: list(10, 9), Primaries: list(2)}, api.OK},
		{"2 10 11", api.RankPlan{AroundTorn: true, Primaries: list(2)}, api.OK},
		{"1 2 10 11", api.RankPlan{AroundTorn: true, Torn: true}, api.OK},
		{"0 2 4 8 10", api.RankPlan{Arounds: list(10), Befores: list(4), Primaries: list(2, 0), Afters: list(8)}, api.OK},
		{"", api.RankPlan{}, api.ErrNone}, {"3", api.RankPlan{}, api.ErrNone}, {"6 7", api.RankPlan{}, api.ErrNone}, {"9", api.RankPlan{}, api.ErrNone}, {"3 7 10 11", api.RankPlan{}, api.ErrNone},
		{"0 12", api.RankPlan{}, api.ErrArg}, {"3 12", api.RankPlan{}, api.ErrArg},
	} {
		for _, l := range sequences(numbers(x.l)) {
			plan, e := rank.Plan(p, l)
			wantText(t, fmt.Sprint("Plan of ", l), tuple(plan, e), tuple(x.want, x.e))
		}
	}
	wanted := tuple(api.RankPlan{AroundTorn: true, Befores: list(4, 5, 3), Torn: true, Afters: list(6, 8, 7)}, api.OK)
	plan, e := rank.Plan(p, numbers("11 10 9 8 7 6 5 4 3 2 1 0"))
	wantText(t, "Plan of all", tuple(plan, e), wanted)
	plan, e = rank.Call(p, one(6), 0, vals(obj(0)))
	wantText(t, "Call with an object of d", tuple(plan, e), wanted)
	plan, e = rank.Call(p, one(5), 0, vals(obj(0)))
	wantText(t, "Call with an object of c", tuple(plan, e), tuple(api.RankPlan{Arounds: list(11, 9), Befores: list(5, 3), Primaries: list(2, 0), Afters: list(6, 8)}, api.OK))
	plan, e = rank.Call(p, one(5), 1, vals(none()))
	wantText(t, "Call of another function", tuple(plan, e), tuple(api.RankPlan{Primaries: list(12)}, api.OK))
}

// TestTornBehind: what is torn is told of around and primary methods each,
// also behind others.
func TestTornBehind(t *testing.T) {
	p := with(prog(diamond+"then o(1)"),
		method(api.FormPrimary, 0, is(0, 6)), method(api.FormPrimary, 0, is(0, 5)), method(api.FormPrimary, 0, is(0, 4)), method(api.FormPrimary, 0, is(0, 3)),
		method(api.FormAround, 0, is(0, 4)), method(api.FormAround, 0, is(0, 5)), method(api.FormAround, 0, is(0, 6)))
	plan, e := rank.Call(p, one(6), 0, vals(obj(0)))
	wantText(t, "both are torn", tuple(plan, e), tuple(api.RankPlan{Arounds: list(6), AroundTorn: true, Primaries: list(0), Torn: true}, api.OK))
	plan, e = rank.Call(p, one(4), 0, vals(obj(0)))
	wantText(t, "none is torn", tuple(plan, e), tuple(api.RankPlan{Arounds: list(4), Primaries: list(2, 3)}, api.OK))
}

func TestCallOfNothing(t *testing.T) {
	p := with(api.BindProg{Gens: []int{2, 1}}, method(api.FormPrimary, 0, yes()))
	plan, e := rank.Call(p, nil, 1, vals(num(3)))
	wantText(t, "Call without methods", tuple(plan, e), tuple(api.RankPlan{}, api.ErrNone))
	plan, e = rank.Call(p, nil, 0, vals(num(3), none()))
	wantText(t, "Call without objects", tuple(plan, e), tuple(api.RankPlan{Primaries: list(0)}, api.OK))
}

// TestPlansOfAny holds Plan and Call of any programs against the definitions.
func TestPlansOfAny(t *testing.T) {
	m := maker{rand.New(rand.NewSource(65))}
	met := map[string]int{}
	for range 3000 {
		p := m.prog()
		o := tell(p)
		for gen, count := range p.Gens {
			l := m.some(p, gen, 0)
			plan, e := rank.Plan(p, l)
			wanted, wantedError := o.plan(l)
			wantText(t, fmt.Sprint("Plan of ", l), tuple(plan, e), tuple(wanted, wantedError))
			again, e := rank.Plan(p, m.shuffled(l))
			wantText(t, fmt.Sprint("Plan of another sequence of ", l), tuple(again, e), tuple(plan, wantedError))
			objs, args := m.call(p, count)
			called, e := rank.Call(p, objs, gen, args)
			wanted, wantedError = o.plan(o.applies(objs, gen, args))
			wantText(t, "Call", tuple(called, e), tuple(wanted, wantedError))
			for what, is := range map[string]bool{"torn": called.Torn, "torn around": called.AroundTorn, "before": len(called.Befores) > 1, "after": len(called.Afters) > 1, "around": len(called.Arounds) > 1, "primary": len(called.Primaries) > 1, "none": e == api.ErrNone} {
				if is {
					met[what]++
				}
			}
		}
		if t.Failed() {
			t.Fatalf("of %v", p)
		}
	}
	for _, what := range []string{"torn", "torn around", "before", "after", "around", "primary", "none"} {
		if met[what] < 30 {
			t.Errorf("too few plans of a kind: %v", met)
		}
	}
}

// moved is a plan in which methods have other numbers.
func moved(p api.RankPlan, numbers []int) api.RankPlan {
	for _, l := range []*[]int{&p.Arounds, &p.Befores, &p.Primaries, &p.Afters} {
		*l = slices.Clone(*l)
		for i, m := range *l {
			(*l)[i] = numbers[m]
		}
	}
	return p
}

// TestWhatDoesNotApply: methods that do not apply do not matter, whether they
// are there or not, and whatever they are.
func TestWhatDoesNotApply(t *testing.T) {
	m := maker{rand.New(rand.NewSource(66))}
	gone := 0
	for range 800 {
		p := m.prog()
		for gen, count := range p.Gens {
			objs, args := m.call(p, count)
			l, _ := rank.Applies(p, objs, gen, args)
			plan, e := rank.Call(p, objs, gen, args)
			planned, e2 := rank.Plan(p, l)
			wantText(t, "Plan of those that apply", tuple(planned, e2), tuple(plan, e))
			var methods []api.BindMethod
			for _, i := range l {
				methods = append(methods, p.Methods[i])
			}
			alone, e2 := rank.Call(with(p, methods...), objs, gen, args)
			wantText(t, "Call without the others", tuple(moved(alone, l), e2), tuple(plan, e))
			methods = slices.Clone(p.Methods)
			for i := range methods {
				if !slices.Contains(l, i) {
					methods[i].Fact, methods[i].Kind = no(), api.FormKind(1+m.Intn(int(kinds)))
					gone++
				}
			}
			others, e2 := rank.Call(with(p, methods...), objs, gen, args)
			wantText(t, "Call with others in their place", tuple(others, e2), tuple(plan, e))
		}
		if t.Failed() {
			t.Fatalf("of %v", p)
		}
	}
	if gone < 3000 {
		t.Errorf("too few did not apply: %d", gone)
	}
}
