package fact_test

import (
	"math/rand"
	"testing"

	"consort/api"
	"consort/fact"
)

func integer(n int) api.MeanVal { return api.MeanVal{Kind: api.MeanInt, N: n} }

func nothing() api.MeanVal { return api.MeanVal{Kind: api.MeanNone} }

func object(n int) api.MeanVal { return api.MeanVal{Kind: api.MeanObj, N: n} }

func thing(class int, slots ...api.MeanVal) api.MeanThing {
	return api.MeanThing{Class: class, Slots: slots}
}

// exampleThings are objects of exampleW: the second one stands in the slot 0
// of the first one, and in its own slot 1.
func exampleThings() []api.MeanThing {
	return []api.MeanThing{thing(4, object(1)), thing(6, integer(7), object(1)), thing(3, nothing()), thing(5, object(2))}
}

func TestAt(t *testing.T) {
	args := []api.MeanVal{object(0), integer(9), object(3)}
	for _, x := range []struct {
		arg    int
		path   []int
		v      api.MeanVal
		stands bool
		e      api.Errno
	}{
		{0, nil, object(0), true, api.OK},
		{0, []int{}, object(0), true, api.OK},
		{1, nil, integer(9), true, api.OK},
		{0, []int{0}, object(1), true, api.OK},
		{0, []int{1}, api.MeanVal{}, false, api.OK},
		{0, []int{0, 0}, integer(7), true, api.OK},
		{0, []int{0, 1}, object(1), true, api.OK},
		{0, []int{1, 0}, api.MeanVal{}, false, api.OK},
		{1, []int{0}, api.MeanVal{}, false, api.OK},
		{1, []int{0, 1}, api.MeanVal{}, false, api.OK},
		{2, []int{1}, object(2), true, api.OK},
		{2, []int{0}, api.MeanVal{}, false, api.OK},
		{2, []int{1, 0}, nothing(), true, api.OK},
		{2, []int{1, 1}, api.MeanVal{}, false, api.OK},
		{3, nil, api.MeanVal{}, false, api.ErrArg},
		{-1, nil, api.MeanVal{}, false, api.ErrArg},
		{0, []int{2}, api.MeanVal{}, false, api.ErrArg},
		{0, []int{-1}, api.MeanVal{}, false, api.ErrArg},
		{1, []int{0, 2}, api.MeanVal{}, false, api.ErrArg},
		{0, []int{0, 1, 0}, api.MeanVal{}, false, api.ErrArg},
	} {
		v, stands, e := fact.At(exampleW(), exampleThings(), args, x.arg, x.path)
		if v != x.v || stands != x.stands || e != x.e {
			t.Errorf("%d %v: %v %v (%d)", x.arg, x.path, v, stands, e)
		}
	}
}

func TestHoldsExamples(t *testing.T) {
	args := []api.MeanVal{object(0), integer(api.FormMost), nothing()}
	for _, x := range []struct {
		f     string
		holds bool
	}{
		{"true", true}, {"not true", false},
		{"0 is 4", true}, {"0 is 3", true}, {"0 is any", true}, {"0 is 6", false}, {"0 is int", false}, {"0 is none", false},
		{"1 is int", true}, {"1 is any", true}, {"1 is 3", false}, {"1 is none", false},
		{"2 is none", true}, {"2 is any", true}, {"2 is int", false}, {"2 < 5", false}, {"2 = 0", false},
		{"1 = most", true}, {"1 < most", false}, {"1 = 0", false}, {"0 = 0", false}, {"0 < 5", false},
		{"0.0 is 5", true}, {"0.0 is 4", true}, {"0.1 is any", false}, {"not 0.1 is any", true}, {"1.0 is any", false},
		{"0.0.0 = 7", true}, {"0.0.0 < 8", true}, {"0.0.0 < 7", false}, {"0.0.1 is 6", true}, {"0.1.0 = 7", false},
		{"not not 0 is 4", true}, {"0 is 4 and 1 is int", true}, {"0 is 4 and 1 is 3", false}, {"0 is 6 and 1 is int", false},
		{"0 is 6 or 1 is int", true}, {"0 is 4 or 1 is 3", true}, {"0 is 6 or 1 is 3", false}, {"0 is 4 or 1 is int", true},
	} {
		if holds, e := fact.Holds(exampleW(), read(x.f), exampleThings(), args); holds != x.holds || e != api.OK {
			t.Errorf("%s holds: %v (%d)", x.f, holds, e)
		}
	}
}

func TestHoldsSpeaksOfArguments(t *testing.T) {
	args := []api.MeanVal{integer(1), integer(2), integer(3)}
	for _, x := range []struct {
		f    string
		args int
	}{{"true", 1}, {"0 is int", 1}, {"1 is int", 2}, {"2 < 5", 3}, {"not 2 = 5", 3}, {"0 is int and not 1 < 3", 2}, {"0 is int or (0 is int or 2 = 5)", 3}} {
		for n := range len(args) + 1 {
			e := api.OK
			if n < x.args {
				e = api.ErrArg
			}
			if holds, got := fact.Holds(exampleW(), read(x.f), nil, args[:n]); got != e || e != api.OK && holds {
				t.Errorf("%s with %d arguments: %v (%d)", x.f, n, holds, got)
			}
		}
	}
}

func TestFormedObjectsAndArguments(t *testing.T) {
	many := make([]api.MeanThing, api.MeanObjs)
	for i := range many {
		many[i] = thing(3, object((i+1)%len(many)))
	}
	one := []api.MeanVal{integer(1)}
	most, above := integer(api.FormMost), integer(api.FormMost+1)
	for i, x := range []struct {
		objs   []api.MeanThing
		args   []api.MeanVal
		formed bool
	}{
		{nil, one, true},
		{nil, nil, false},
		{nil, []api.MeanVal{most, integer(-api.FormMost), nothing()}, true},
		{nil, []api.MeanVal{most, most, most, most}, false},
		{nil, []api.MeanVal{above}, false},
		{nil, []api.MeanVal{most, integer(-api.FormMost - 1)}, false},
		{nil, []api.MeanVal{{}}, false},
		{nil, []api.MeanVal{{Kind: -1}}, false},
		{nil, []api.MeanVal{{Kind: 4}}, false},
		{nil, []api.MeanVal{{Kind: api.MeanNone, N: 1}}, false},
		{nil, []api.MeanVal{object(0)}, false},
		{many, []api.MeanVal{object(39)}, true},
		{many, []api.MeanVal{object(40)}, false},
		{many, []api.MeanVal{object(-1)}, false},
		{append(many, thing(3, nothing())), one, false},
		{exampleThings(), one, true},
		{[]api.MeanThing{thing(2)}, one, false},
		{[]api.MeanThing{thing(0)}, one, false},
		{[]api.MeanThing{thing(-1)}, one, false},
		{[]api.MeanThing{thing(7)}, one, false},
		{[]api.MeanThing{thing(3)}, one, false},
		{[]api.MeanThing{thing(3, most)}, one, true},
		{[]api.MeanThing{thing(3, above)}, one, false},
		{[]api.MeanThing{thing(3, object(0))}, one, true},
		{[]api.MeanThing{thing(3, object(1))}, one, false},
		{[]api.MeanThing{thing(3, nothing(), nothing())}, one, false},
		{[]api.MeanThing{thing(6, nothing(), api.MeanVal{Kind: api.MeanNone, N: 7})}, one, false},
		{[]api.MeanThing{thing(6, nothing(), api.MeanVal{})}, one, false},
		{[]api.MeanThing{thing(6, nothing())}, one, false},
	} {
		e := api.OK
		if !x.formed {
			e = api.ErrArg
		}
		if holds, got := fact.Holds(exampleW(), yes(), x.objs, x.args); got != e || holds != x.formed {
			t.Errorf("%d: Holds %v (%d)", i, holds, got)
		}
		v, stands, got := fact.At(exampleW(), x.objs, x.args, 0, nil)
		if got != e || stands != x.formed || !x.formed && v != (api.MeanVal{}) {
			t.Errorf("%d: At %v %v (%d)", i, v, stands, got)
		}
	}
	bad := api.FactWorld{Owner: []int{3}}
	_, e1 := fact.Holds(bad, yes(), nil, one)
	_, _, e2 := fact.At(bad, nil, one, 0, nil)
	_, e3 := fact.Holds(exampleW(), is(0, 7), nil, one)
	_, e4 := fact.Holds(exampleW(), api.Fact{}, nil, one)
	if e1 != api.ErrArg || e2 != api.ErrArg || e3 != api.ErrArg || e4 != api.ErrArg {
		t.Errorf("what is not formed: %d %d %d %d", e1, e2, e3, e4)
	}
}

// anyThings are formed objects of a world, which has own classes, and arguments.
func anyThings(r *rand.Rand, w api.FactWorld) ([]api.MeanThing, []api.MeanVal) {
	o := tell(w)
	count := r.Intn(6)
	if len(w.Parents) == 0 {
		count = 0
	}
	value := func() api.MeanVal {
		switch n := r.Intn(5); {
		case n < 3 && count > 0:
			return object(r.Intn(count))
		case n == 3:
			return integer([]int{-api.FormMost, 0, 1, 2, 3, api.FormMost}[r.Intn(6)])
		}
		return nothing()
	}
	var objs []api.MeanThing
	for range count {
		class := 3 + r.Intn(len(w.Parents))
		var slots []api.MeanVal
		for range o.slots(class) {
			slots = append(slots, value())
		}
		objs = append(objs, thing(class, slots...))
	}
	return objs, []api.MeanVal{value(), value(), value()}
}

func TestAtAndHolds(t *testing.T) {
	r := rand.New(rand.NewSource(42))
	count := map[bool]int{}
	deep := 0
	for n := range 3000 {
		w := anyWorld(r, n%8, n%5)
		if n%50 == 0 {
			w = wide(60, 40)
		}
		o := tell(w)
		objs, args := anyThings(r, w)
		m := maker{r, w, 3, len(w.Owner)}
		for range 10 {
			f := m.formed(1 + r.Intn(8))
			holds, e := fact.Holds(w, f, objs, args)
			if holds != o.holds(f, objs, args) || e != api.OK {
				t.Fatalf("%s holds in %v, %v, %v: %v (%d)", text(f), w, objs, args, holds, e)
			}
			count[holds]++
			// A fact holds just if all literals of one of its cases do.
			cases, _ := fact.Cases(w, f)
			some := false
			for _, c := range cases {
				some = some || o.holds(all(and, append([]api.Fact{yes()}, c...)...), objs, args)
			}
			want(t, "a case of "+text(f)+" holds", some, holds)
			x := m.literal()
			v, stands, e := fact.At(w, objs, args, x.Arg, x.Path)
			wantV, wantStands := o.at(objs, args[x.Arg], x.Path)
			if v != wantV || stands != wantStands || e != api.OK {
				t.Fatalf("at %d %v in %v, %v, %v: %v %v (%d)", x.Arg, x.Path, w, objs, args, v, stands, e)
			}
			if stands && len(x.Path) == 2 {
				deep++
			}
		}
	}
	if count[true] < 5000 || count[false] < 5000 || deep < 500 {
		t.Errorf("too few of a kind: %v, %d", count, deep)
	}
}
