package fact_test

import (
	"math/rand"
	"testing"

	"consort/api"
	"consort/fact"
)

func implies(t *testing.T, w api.FactWorld, a, b api.Fact) bool {
	t.Helper()
	is, e := fact.Implies(w, a, b)
	if e != api.OK {
		t.Fatalf("%s implies %s in %v: %d", text(a), text(b), w, e)
	}
	return is
}

func TestImpliesExamples(t *testing.T) {
	for _, x := range []struct {
		a, b string
		is   bool
	}{
		{"0 is 4", "0 is 3", true}, {"0 is 4 and 0 is 5", "0 is 6", false}, {"0.0 < 7", "0 is 3", true},
		{"0 < 3", "0 < 4", true}, {"not 0 < 3", "0 is int", false}, {"0 < 4 and not 0 = 3", "0 < 3", true}, {"0 is 3", "0.0 is any", true},
		{"0 is 3", "0 is 4", false}, {"0 is 6", "0 is 4 and 0 is 5", true}, {"0 is 6", "0 is 3 and 0.1 is any and 0.0 is any", true},
		{"true", "0 is any", true}, {"0 is any", "true", true}, {"true", "0.0 is any", false}, {"not true", "0 is 3 and 0 is int", true},
		{"0 is 3 and 0 is int", "not true", true}, {"0.0 is any", "0 is 3", true}, {"0 is 3", "0.0 is int or not 0.0 is int", true},
		{"0 is any", "0 is int or 0 is none", false}, {"0 is 3", "not 0 is int", true}, {"0 is 4", "not 0 is 5", false},
		{"0 is 4", "not 0 is none and not 0 < 3 and not 0 = 3", true}, {"0.0 is int", "not 0.0.1 is any", true},
		{"0 < 4", "0 < 3", false}, {"0 = 3", "0 < 4", true}, {"0 = 3", "not 0 < 3", true}, {"0 = 3", "not 0 = 4", true},
		{"0 is int", "0 < most or 0 = most", true}, {"0 is int", "not 0 < least", true}, {"0 is int", "0 < most", false},
		{"0 is int and not 0 < most", "0 = most", true}, {"not 0 < most", "0 = most", false}, {"0 is int and 0 < 1", "0 = least or not 0 < 1 or not 0 = least", true},
		{"0 = 3", "1 = 3", false}, {"0 = 3 and 1 = 3", "1 = 3", true}, {"0 is 3", "1 is any", true},
		{"not 0.1 is any", "not 0 is 5", true}, {"not 0.1 is any", "not 0 is 6", true}, {"not 0 is 5", "not 0.1 is any", true}, {"not 0.0.1 is any", "not 0.0 is 5", true},
		{"not 0 is 3", "not 0 is 4", true}, {"not 0 is 4", "not 0 is 3", false},
	} {
		a, b := read(x.a), read(x.b)
		want(t, x.a+" implies "+x.b, implies(t, exampleW(), a, b), x.is)
		s, _ := surveyed(exampleW(), a, b)
		want(t, "told of "+x.a+" and "+x.b, s.implies(a, b), x.is)
		want(t, x.b+" implies "+x.a+" the other way round", implies(t, exampleW(), not(b), not(a)), x.is)
	}
}

func TestImplies(t *testing.T) {
	count := map[bool]int{}
	someFacts(t, 44, 2500, 2, func(_ *rand.Rand, s survey, w api.FactWorld, l []api.Fact) {
		is := implies(t, w, l[0], l[1])
		if is != s.implies(l[0], l[1]) {
			t.Fatalf("%s implies %s in %v: %v", text(l[0]), text(l[1]), w, is)
		}
		count[is]++
	})
	if count[true] < 300 || count[false] < 300 {
		t.Errorf("too few of a kind: %v", count)
	}
}

// TestInBiggerWorlds holds what facts say against what they say in bigger worlds.
func TestInBiggerWorlds(t *testing.T) {
	r := rand.New(rand.NewSource(45))
	for n := range 3000 {
		w := anyWorld(r, r.Intn(7), r.Intn(5))
		bigger := grown(r, w, 1+r.Intn(12), r.Intn(8))
		if n%100 == 0 {
			bigger = grown(r, w, api.FactClasses-len(w.Parents), 35)
		}
		m := maker{r, w, 1 + r.Intn(3), len(w.Owner)}
		a, b := m.formed(1+r.Intn(6)), m.formed(1+r.Intn(6))
		is := implies(t, w, a, b)
		want(t, text(a)+" implies "+text(b)+" in a bigger world", implies(t, bigger, a, b), is)
		can, _ := fact.Can(w, a)
		still, _ := fact.Can(bigger, a)
		want(t, text(a)+" can be so in a bigger world", still, can)
		cases, _ := fact.Cases(w, a)
		more, _ := fact.Cases(bigger, a)
		want(t, "cases of "+text(a)+" in a bigger world", texts(more), texts(cases))
		short, _ := fact.Short(w, a)
		again, _ := fact.Short(bigger, a)
		want(t, text(a)+" made short in a bigger world", text(again), text(short))
	}
}

func TestImplicationIsAnOrder(t *testing.T) {
	r := rand.New(rand.NewSource(46))
	chains := 0
	for range 4000 {
		w := anyWorld(r, r.Intn(6), r.Intn(4))
		m := maker{r, w, 1, min(len(w.Owner), 2)}
		a, b, c := m.formed(1+r.Intn(4)), m.formed(1+r.Intn(3)), m.formed(1+r.Intn(3))
		want(t, text(a)+" implies itself", implies(t, w, a, a), true)
		if implies(t, w, a, b) && implies(t, w, b, c) {
			want(t, text(a)+" implies "+text(c), implies(t, w, a, c), true)
			chains++
		}
		both, either := and(b, c), or(b, c)
		for _, kid := range both.Kids {
			for _, pair := range [][2]api.Fact{{both, kid}, {kid, either}, {not(kid), not(both)}, {not(either), not(kid)}} {
				want(t, text(pair[0])+" implies "+text(pair[1]), implies(t, w, pair[0], pair[1]), true)
			}
		}
		if implies(t, w, a, b) != implies(t, w, not(b), not(a)) {
			t.Errorf("%s implies %s, and the other way round", text(a), text(b))
		}
		can, _ := fact.Can(w, a)
		want(t, text(a)+" implies what cannot be", implies(t, w, a, not(yes())), !can)
		want(t, text(a)+" follows from what is always so", implies(t, w, yes(), a), implies(t, w, not(a), not(yes())))
	}
	if chains < 200 {
		t.Errorf("only %d chains", chains)
	}
}

// TestImpliesOfTheLargestFacts has as many cases as there can be.
func TestImpliesOfTheLargestFacts(t *testing.T) {
	three := func(two func(a, b api.Fact) api.Fact, from int) func(int) api.Fact {
		return func(i int) api.Fact {
			return all(two, times(3, func(n int) api.Fact { return same(0, from+3*i+n, i, n) })...)
		}
	}
	w := wide(20, 40)
	a, b := bush(and, times(4, three(or, 0))...), bush(or, times(4, three(and, 12))...)
	want(t, "cases", len(casesOf(and(a, not(b)), false)), 81*81)
	want(t, "it implies", implies(t, w, a, b), false)
	b = bush(or, append(times(3, three(and, 12)), bush(and, times(3, func(i int) api.Fact { return is(0, 3+i*7%20, i) })...))...)
	implies(t, w, a, b)
}

func TestImpliesOfWhatIsNotFormed(t *testing.T) {
	bad := api.FactWorld{Owner: []int{3}}
	for i, x := range []struct {
		w    api.FactWorld
		a, b api.Fact
	}{{bad, yes(), yes()}, {exampleW(), api.Fact{}, yes()}, {exampleW(), not(yes()), api.Fact{}}, {exampleW(), is(0, 7), yes()}, {exampleW(), yes(), is(0, 3, 2)}} {
		if is, e := fact.Implies(x.w, x.a, x.b); is || e != api.ErrArg {
			t.Errorf("%d: %v (%d)", i, is, e)
		}
	}
}
