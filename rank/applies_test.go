package rank_test

import (
	"fmt"
	"math/rand"
	"slices"
	"testing"

	"consort/api"
	"consort/rank"
)

func TestApplies(t *testing.T) {
	// The language's true and false are the integers 1 and 0.
	p := facts("method", "class a { f } class b : a { g } ",
		"true", "not true", "x is any", "x is int", "x is none", "x is a", "x is b", "x < 1", "x = 1", "x.f = 7", "x.f is a", "y is int and x is int", "z is none or y is b", "x.f.g < 5")
	objs := []api.MeanThing{thing(3, num(7)), thing(4, obj(0), none()), thing(4, obj(2), num(4)), thing(3, none())}
	for _, x := range []struct {
		args []api.MeanVal
		want []int
	}{
		{vals(num(0), num(0), num(0)), list(0, 2, 3, 7, 11)},
		{vals(num(1), num(0), num(0)), list(0, 2, 3, 8, 11)},
		{vals(num(-api.FormMost), num(0), none()), list(0, 2, 3, 7, 11, 12)},
		{vals(num(api.FormMost), obj(1), num(0)), list(0, 2, 3, 12)},
		{vals(none(), num(0), obj(0)), list(0, 2, 4)},
		{vals(obj(0), num(1), num(0)), list(0, 2, 5, 9)},
		{vals(obj(1), obj(0), num(0)), list(0, 2, 5, 6, 10)},
		{vals(obj(2), obj(2), obj(2)), list(0, 2, 5, 6, 10, 12, 13)},
		{vals(obj(3), none(), none()), list(0, 2, 5, 12)},
	} {
		l, e := rank.Applies(p, objs, 0, x.args)
		wantText(t, fmt.Sprint("Applies to ", x.args), tuple(l, e), tuple(x.want, api.OK))
	}
}

func TestAppliesOfFunctions(t *testing.T) {
	p := several()
	for gen, of := range [][]string{{"[0 2 3 5 8 9]", "[0 2 3 5 6 8 9]", "[9]"}, {"[1 4 7 10]", "[1 4 7 10]", "[]"}} {
		for i, v := range []api.MeanVal{obj(0), obj(1), num(3)} {
			l, e := rank.Applies(p, []api.MeanThing{thing(4), thing(6)}, gen, vals(v))
			wantText(t, fmt.Sprint("Applies ", gen, v), tuple(l, e), tuple(of[i], api.OK))
		}
	}
	p = with(api.BindProg{Gens: []int{2, 1}}, method(api.FormBefore, 0, yes()))
	l, e := rank.Applies(p, nil, 1, vals(num(3)))
	wantText(t, "Applies without methods", tuple(l, e), tuple(list(), api.OK))
	l, e = rank.Applies(p, nil, 0, vals(num(3), none()))
	wantText(t, "Applies without objects", tuple(l, e), tuple(list(0), api.OK))
}

// wrongCall is a call of the function 0 of a program with an argument that has
// one class, with the slot f, which is not formed.
type wrongCall struct {
	what string
	objs []api.MeanThing
	gen  int
	args []api.MeanVal
}

func wrongCalls() []wrongCall {
	ok, many := vals(num(3)), slices.Repeat([]api.MeanThing{thing(3, none())}, api.MeanObjs+1)
	return []wrongCall{
		{"no such function", nil, 1, ok}, {"a negative function", nil, -1, ok}, {"a function far away", nil, 1 << 62, ok},
		{"no arguments", nil, 0, nil}, {"too many arguments", nil, 0, vals(num(3), num(4))}, {"far too many arguments", nil, 0, vals(num(3), num(4), num(3), num(4))},
		{"a kind that there is not", nil, 0, vals(api.MeanVal{})}, {"a negative kind", nil, 0, vals(api.MeanVal{Kind: -1})}, {"a kind too high", nil, 0, vals(api.MeanVal{Kind: 4})},
		{"an integer too high", nil, 0, vals(num(api.FormMost + 1))}, {"an integer too low", nil, 0, vals(num(-api.FormMost - 1))}, {"a none with a number", nil, 0, vals(api.MeanVal{Kind: api.MeanNone, N: 1})},
		{"no such object", many[:1], 0, vals(obj(1))}, {"a negative object", many[:1], 0, vals(obj(-1))}, {"no objects", nil, 0, vals(obj(0))},
		{"too many objects", many, 0, ok}, {"an object of int", one(1), 0, ok}, {"an object of no class", one(4), 0, ok}, {"an object of a negative class", one(-3), 0, ok},
		{"an object with too few slots", one(3), 0, ok}, {"an object with too many slots", []api.MeanThing{thing(3, none(), none())}, 0, ok},
		{"a slot with no such object", []api.MeanThing{thing(3, obj(1))}, 0, ok}, {"a slot with no value", []api.MeanThing{thing(3, api.MeanVal{})}, 0, ok}, {"a second object that is not formed", []api.MeanThing{thing(3, none()), thing(0)}, 0, ok},
	}
}

func TestCallErrors(t *testing.T) {
	for _, p := range []api.BindProg{
		prog("class a { f } method o(x) where true { 0 } then 0"),
		prog("class a { f } before o(x) where true { 0 } then 0"),
		prog("class a { f } then o(1)"),
	} {
		for _, x := range wrongCalls() {
			l, e := rank.Applies(p, x.objs, x.gen, x.args)
			wantText(t, "Applies with "+x.what, tuple(l, e), tuple(list(), api.ErrArg))
			plan, e := rank.Call(p, x.objs, x.gen, x.args)
			wantText(t, "Call with "+x.what, tuple(plan, e), tuple(api.RankPlan{}, api.ErrArg))
		}
		_, e := rank.Applies(p, slices.Repeat([]api.MeanThing{thing(3, none())}, api.MeanObjs), 0, vals(obj(api.MeanObjs-1)))
		want(t, "as many objects as there can be", e, api.OK)
	}
}

// TestWhatIsImpliedApplies holds Applies of any calls against the definition;
// what a method that applies implies applies.
func TestWhatIsImpliedApplies(t *testing.T) {
	m := maker{rand.New(rand.NewSource(63))}
	applied, implied := 0, 0
	for range 800 {
		p := m.prog()
		o := tell(p)
		for gen, count := range p.Gens {
			objs, args := m.call(p, count)
			l, e := rank.Applies(p, objs, gen, args)
			wantText(t, "Applies", tuple(l, e), tuple(o.applies(objs, gen, args), api.OK))
			applied += len(l)
			for _, i := range l {
				for j := range p.Methods {
					if i != j && o.implies(i, j) {
						implied++
						want(t, "what is implied applies", slices.Contains(l, j), true)
					}
				}
			}
		}
		if t.Failed() {
			t.Fatalf("of %v", p)
		}
	}
	if applied < 1500 || implied < 1500 {
		t.Errorf("too few apply (%d) or are implied (%d)", applied, implied)
	}
}
