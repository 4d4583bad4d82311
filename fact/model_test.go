package fact_test

import (
	"math/rand"
	"reflect"
	"slices"
	"testing"

	"consort/api"
	"consort/fact"
)

// wantModel holds a model of a fact, or that there is none, against what it should be.
func wantModel(t *testing.T, w api.FactWorld, f api.Fact, can bool) {
	t.Helper()
	bigger, objs, args, e := fact.Model(w, f)
	if !can {
		if e != api.ErrNone || !reflect.ValueOf(bigger).IsZero() || objs != nil || args != nil {
			t.Errorf("a model of %s in %v: %v %v %v (%d)", text(f), w, bigger, objs, args, e)
		}
		return
	}
	if e != api.OK || !isBigger(w, bigger) || len(args) != api.FormArgs {
		t.Errorf("no model of %s in %v: %v %v %v (%d)", text(f), w, bigger, objs, args, e)
		return
	}
	// Holds refuses what is not formed.
	if holds, e := fact.Holds(bigger, f, objs, args); !holds || e != api.OK || !tell(bigger).holds(f, objs, args) {
		t.Errorf("%s holds in %v, for %v, %v: %v (%d)", text(f), bigger, objs, args, holds, e)
	}
}

func isBigger(w, bigger api.FactWorld) bool {
	classes, slots := len(w.Parents), len(w.Owner)
	return fact.Check(bigger) == api.OK && classes <= len(bigger.Parents) && slots <= len(bigger.Owner) &&
		slices.EqualFunc(w.Parents, bigger.Parents[:classes], slices.Equal[[]int]) &&
		slices.Equal(w.Owner, bigger.Owner[:slots])
}

func TestModelExamples(t *testing.T) {
	for _, x := range []struct {
		f   string
		can bool
	}{
		{"true", true}, {"not true", false}, {"0 is int and 0.0 is any", false}, {"0 is 4 and 0 is 5", true}, {"0.0.1 is int", true},
		{"0 is 4 and 0 is 5 and not 0 is 6", true}, {"0 is 3 and not 0 is 4 and not 0 is 5", true}, {"0 is 6 and 0.0 is 6 and 0.0.1 is 6", true},
		{"not 0 is int and not 1 is none and not 2 is 3", true}, {"not 0 is int and not 0 is none", true},
		{"0 is 3 and not 0.0 is int and not 0.0 is none and not 0.0 is 3", true}, {"0 is 3 and not 0.0.1 is any", true},
		{"0 is none and 1 is int", true}, {"not 0 < 5 and not 0 = 5 and 0 is int", true}, {"0 < 5 and not 0 < 4", true},
		{"0 = most and 1 = least", true}, {"0 is int and not 0 = least and not 0 < 2 and not 0 = 2 and not 0 = 3", true},
		{"0 is int and 0 is 3 or 1 is 3 and 1 is none or 2 is 3", true}, {"0 < 3 and 0 < 2 and not 0 < 1 and not 0 = 1", false},
	} {
		wantModel(t, exampleW(), read(x.f), x.can)
	}
	for _, x := range []struct {
		f   string
		can bool
	}{{"true", true}, {"0 is int", true}, {"not 0 is int and not 0 is none", true}, {"not 0 is any", false}, {"1 is none and not 2 is none", true}} {
		wantModel(t, empty(), read(x.f), x.can)
	}
}

func TestModel(t *testing.T) {
	count := map[bool]int{}
	someFacts(t, 47, 2500, 1, func(_ *rand.Rand, s survey, w api.FactWorld, l []api.Fact) {
		can := s.can(l[0])
		wantModel(t, w, l[0], can)
		count[can]++
	})
	r := rand.New(rand.NewSource(48))
	for n := range 4000 {
		w := anyWorld(r, n%(api.FactBase+1), n%(api.FactSlots+1))
		m := maker{r, w, 1 + r.Intn(3), len(w.Owner)}
		f := m.formed(12)
		can, _ := fact.Can(w, f)
		wantModel(t, w, f, can)
		count[can]++
		// What does not follow has a model that says so.
		a, b := m.formed(1+r.Intn(5)), m.formed(1+r.Intn(5))
		if g := and(a, not(b)); size(g) <= api.FactNodes && depth(g) <= api.FormDepth {
			wantModel(t, w, g, !implies(t, w, a, b))
		}
	}
	if count[true] < 1000 || count[false] < 500 {
		t.Errorf("too few of a kind: %v", count)
	}
}

// TestModelLimits has worlds with as many classes as there can be, and facts
// that need as many objects as there can be, each of a class of its own.
func TestModelLimits(t *testing.T) {
	full := wide(api.FactBase, 40)
	wantModel(t, full, read("0 is 3 and not 0 is 4"), true)
	wantModel(t, full, read("0 is int and 0 is 4"), false)
	large := wide(api.FactBase+1, 40)
	for _, f := range []api.Fact{yes(), not(yes()), read("0 is 3")} {
		bigger, objs, args, e := fact.Model(large, f)
		if !reflect.ValueOf(bigger).IsZero() || objs != nil || args != nil || e != api.ErrLong {
			t.Errorf("a model of %s in too large a world: %v %v %v (%d)", text(f), bigger, objs, args, e)
		}
	}
	own := api.FactWorld{Parents: make([][]int, api.FactBase)}
	for i := range api.FactSlots {
		own.Owner = append(own.Owner, 3+i%api.FactBase)
	}
	wantModel(t, own, bush(and, times(12, func(i int) api.Fact { return is(i%3, 3+i, i, 39-i) })...), true)
	wantModel(t, own, bush(and, times(12, func(i int) api.Fact { return is(i%3, 3+(i+1)%20, i%4, 39-i) })...), true)
	wantModel(t, own, bush(and, append(times(11, func(i int) api.Fact { return is(0, 3+i, 2*i, 2*i+1) }), not(is(1, 2)))...), true)
	for i, x := range []struct {
		w api.FactWorld
		f api.Fact
	}{{api.FactWorld{Owner: []int{3}}, yes()}, {exampleW(), api.Fact{}}, {large, is(0, 99)}, {large, is(0, 3, 40)}, {wide(20, 2), not(is(0, 3, 2))}} {
		bigger, objs, args, e := fact.Model(x.w, x.f)
		if !reflect.ValueOf(bigger).IsZero() || objs != nil || args != nil || e != api.ErrArg {
			t.Errorf("%d is not formed: %v %v %v (%d)", i, bigger, objs, args, e)
		}
	}
}
