package fact_test

import (
	"math/rand"
	"testing"

	"consort/api"
	"consort/fact"
)

func TestCasesExamples(t *testing.T) {
	for _, x := range []struct{ f, cases string }{
		{"0 is int and (0 < 3 or 0 is 3)", "0 is int, 0 < 3"},
		{"0 is 4", "0 is 4"},
		{"not 0 is 4", "not 0 is 4"},
		{"not not 0 is 4", "0 is 4"},
		{"0 is 4 and 1 is 5", "0 is 4, 1 is 5"},
		{"not (0 is 4 and 1 is 5)", "not 0 is 4; not 1 is 5"},
		{"not (0 is 4 or 1 is 5)", "not 0 is 4, not 1 is 5"},
		{"not (0 is 4 and not 1 is 5)", "not 0 is 4; 1 is 5"},
		{"0 is 4 or 0 is 4", "0 is 4; 0 is 4"},
		{"0 is 4 and 0 is 4", "0 is 4"},
		{"0 is 4 and not not 0 is 4", "0 is 4"},
		{"0 is 4 and not 0 is 5 and (0 is 5 or 0 is 4)", "0 is 4, not 0 is 5"},
		{"(0 is 3 or 0 is 4) and (1 is 5 or 1 is 6)", "0 is 3, 1 is 5; 0 is 3, 1 is 6; 0 is 4, 1 is 5; 0 is 4, 1 is 6"},
		{"(0 is 3 and 1 is 3) and (2 is 3 and 1 is 3 and 0 is 4)", "0 is 3, 1 is 3, 2 is 3, 0 is 4"},
		{"0 < 3 or 0 = 3 or 0.0 < 3", "0 < 3; 0 = 3; 0.0 < 3"},
		{"0 < 3 and 1 < 3 and 0.0.0 < 3 and 0.0.1 < 3", ""},
		{"0.0.0 < 3 and 0.0.1 < 3 and 0.1.0 < 3", "0.0.0 < 3, 0.0.1 < 3, 0.1.0 < 3"},
	} {
		cases, e := fact.Cases(exampleW(), read(x.f))
		if texts(cases) != texts(splitCases(x.cases)) || e != api.OK {
			t.Errorf("%s: %s (%d)", x.f, texts(cases), e)
		}
	}
	for _, x := range []struct {
		f     string
		cases int
	}{{"true", 1}, {"not true", 0}, {"true and true", 1}, {"true or true", 2}, {"not (true and true)", 0}, {"not true or true", 1}} {
		cases, e := fact.Cases(empty(), read(x.f))
		if len(cases) != x.cases || x.cases > 0 && len(cases[0]) > 0 || e != api.OK {
			t.Errorf("%s: %v (%d)", x.f, cases, e)
		}
	}
}

func TestCanExamples(t *testing.T) {
	for _, x := range []struct {
		f   string
		can bool
	}{
		{"0 is int and 0.0 is any", false}, {"0 is 4 and 0 is 5", true}, {"0.0.1 is int", true}, {"0 is 5 and not 0.1 is any", false},
		{"true", true}, {"not true", false}, {"0 is any", true}, {"not 0 is any", false}, {"not 2 is any", false},
		{"0 is int and 0 is none", false}, {"0 is int and 0 is 3", false}, {"0 is none and 0 is 3", false},
		{"0 is int and not 0 is int", false}, {"0 is none and not 0 is none", false}, {"0 is none and not 0 is int", true},
		{"not 0 is int and not 0 is none", true}, {"not 0 is int and not 0 is none and not 0 is 3 and not 0 is 5", true},
		{"0 is 4 and not 0 is 3", false}, {"0 is 3 and not 0 is 4", true}, {"0 is 4 and 0 is 5 and not 0 is 6", true},
		{"0 is 4 and 0 is 5 and not 0 is 3", false}, {"0 is 6 and not 0 is 4", false},
		// A class of the world, and one that is below two of them elsewhere.
		{"0 is 3 and 0 is 5", true}, {"0 is 3 and 0 is 5 and not 0 is 4", true},
		// Integers.
		{"0 < 3 and 0 = 3", false}, {"0 < 3 and 0 = 2", true}, {"0 = 2 and 0 = 3", false}, {"0 < 3 and not 0 < 2", true},
		{"0 < 3 and not 0 < 2 and not 0 = 2", false}, {"0 < 3 and not 0 < 3", false}, {"0 = 2 and not 0 = 2", false},
		{"0 < 4 and not 0 < 0 and not 0 = 0 and not 0 = 1 and not 0 = 3", true},
		{"0 < 4 and not 0 < 0 and not 0 = 0 and not 0 = 1 and not 0 = 3 and not 0 = 2", false},
		{"0 < least", false}, {"not 0 < least", true}, {"0 = least", true}, {"0 = most", true}, {"0 < most", true},
		{"0 is int and not 0 < most", true}, {"0 is int and not 0 < most and not 0 = most", false},
		{"0 is int and not 0 = least and 0 < 5", true}, {"0 = least and not 0 < most", false},
		{"not 0 < most and not 0 = most", true}, {"0 is none and not 0 < 5 and not 0 = 5", true}, {"0 is none and 0 < 5", false},
		{"0 is 3 and 0 < 5", false}, {"not 0 < 5 and not 0 is 3 and not 0 is none and not 0 is int", true},
		// Paths.
		{"0.0 is any", true}, {"0.0 is any and not 0 is 3", false}, {"0.0 is any and not 0 is 4", true},
		{"0.0 is any and 0.1 is any", true}, {"0.0 is any and 0.1 is any and not 0 is 6", true}, {"0.0 is any and 0 is none", false},
		{"not 0.0 is any and 0 is 3", false}, {"not 0.0 is any and 0 is 4", false}, {"not 0.0 is any and 0 is 5", true},
		{"0 is 6 and not 0.1 is any", false}, {"0 is 4 and not 0.1 is any", true}, {"0 is 4 and 0 is 5 and not 0.1 is any", false},
		{"0 is 3 and not 0.0 is int and not 0.0 is none and not 0.0 is 3", true},
		{"0 is 3 and not 0.0 is int and not 0.0 is none and not 0.0 is any", false},
		{"0.0.1 is int and 0.0 is int", false}, {"0.0.1 is int and not 0.0 is 5", false}, {"0.0.1 is int and not 0 is 3", false},
		{"0.0.1 = 3 and 0.0.0 = 4", true}, {"0.0.1 = 3 and 0.0.1 = 4", false}, {"0.0.1 = 3 and 0.1.1 = 4 and 1.0.1 = 4", true},
		{"0.0 is 5 and not 0.0.1 is any", false}, {"0.0 is 3 and not 0.0.1 is any", true}, {"0 is 3 and not 0.0.1 is any", true},
		{"0.0.1 = 3 and not 0.0.1 < 3 and 0.0.1 < 4", true}, {"0.0 < 3 and 0.0.0 is any", false},
		// Several arguments have nothing to do with each other.
		{"0 is 3 and not 1 is 3 and 2 is int", true}, {"0 = 3 and not 1 = 3 and 2 < 3", true}, {"0.0 = 3 and not 1.0 = 3 and 1 is 3", true},
		{"(0 is int or 0 is none) and 0 is 3", false}, {"(0 is int or 0 is 4) and 0 is 3", true},
		{"not (0 is any or 1 is 3)", false}, {"not (0 is any and 1 is 3)", true},
	} {
		can, e := fact.Can(exampleW(), read(x.f))
		if can != x.can || e != api.OK {
			t.Errorf("%s can be so: %v (%d)", x.f, can, e)
		}
		s, _ := surveyed(exampleW(), read(x.f))
		want(t, "told of "+x.f, s.can(read(x.f)), x.can)
	}
	// Below many parents at once, in a world with as many classes as there can be.
	w := wide(60, 40)
	heir := is(0, 3)
	for class := 8; class < 63; class += 5 {
		heir = and(heir, is(0, class))
	}
	if can, e := fact.Can(w, heir); !can || e != api.OK {
		t.Errorf("a class below many: %v (%d)", can, e)
	}
	w.Parents[59] = parentsOfAll(62)
	for class := 3; class < 62; class++ {
		can, e := fact.Can(w, and(is(0, 62), not(is(0, class))))
		if can || e != api.OK {
			t.Errorf("an object of 62 that is none of %d: %v (%d)", class, can, e)
		}
	}
}

// someFacts hands over worlds, facts of them, and what is told of these.
func someFacts(t *testing.T, seed int64, count, facts int, check func(r *rand.Rand, s survey, w api.FactWorld, l []api.Fact)) {
	t.Helper()
	r := rand.New(rand.NewSource(seed))
	for done := 0; done < count && !t.Failed(); {
		w := anyWorld(r, r.Intn(5), r.Intn(4))
		m := maker{r, w, 1 + r.Intn(3), min(len(w.Owner), 2+r.Intn(2))}
		var l []api.Fact
		for range facts {
			l = append(l, m.formed(1+r.Intn(12/facts)))
		}
		if s, ok := surveyed(w, l...); ok {
			check(r, s, w, l)
			done++
		}
	}
}

func TestCasesAndCan(t *testing.T) {
	count := map[bool]int{}
	left := 0
	someFacts(t, 43, 2500, 1, func(_ *rand.Rand, s survey, w api.FactWorld, l []api.Fact) {
		f := l[0]
		can, e := fact.Can(w, f)
		if can != s.can(f) || e != api.OK {
			t.Fatalf("%s can be so in %v: %v (%d)", text(f), w, can, e)
		}
		count[can]++
		cases, e := fact.Cases(w, f)
		wanted := s.cases(f)
		if texts(cases) != texts(wanted) || len(cases) != len(wanted) || e != api.OK {
			t.Fatalf("cases of %s in %v: %s (%d), not %s", text(f), w, texts(cases), e, texts(wanted))
		}
		if len(cases) < len(casesOf(f, false)) {
			left++
		}
	})
	if count[true] < 500 || count[false] < 300 || left < 500 {
		t.Errorf("too few of a kind: %v, %d", count, left)
	}
}

func TestCasesOfTheLargestFacts(t *testing.T) {
	three := func(i int) api.Fact { return all(or, times(3, func(n int) api.Fact { return less(0, 10*i+n) })...) }
	f := bush(and, times(4, three)...)
	cases, e := fact.Cases(empty(), f)
	if wanted := casesOf(f, false); len(cases) != 81 || e != api.OK || texts(cases) != texts(wanted) {
		t.Errorf("%d cases (%d)", len(cases), e)
	}
	// Though it has as many literals at different paths as there can be.
	w := wide(20, 40)
	far := bush(and, times(12, func(i int) api.Fact { return same(i%3, i, i, 39-i) })...)
	can, e := fact.Can(w, far)
	want(t, "a fact with many paths", can && e == api.OK, true)
}

func TestCanOfWhatIsNotFormed(t *testing.T) {
	bad := api.FactWorld{Owner: []int{3}}
	for i, x := range []struct {
		w api.FactWorld
		f api.Fact
	}{{bad, yes()}, {exampleW(), api.Fact{}}, {exampleW(), is(0, 7)}, {empty(), is(0, 3)}, {exampleW(), is(3, 3)}, {exampleW(), nots(12, yes())}} {
		cases, e1 := fact.Cases(x.w, x.f)
		can, e2 := fact.Can(x.w, x.f)
		if cases != nil || can || e1 != api.ErrArg || e2 != api.ErrArg {
			t.Errorf("%d: %v (%d), %v (%d)", i, cases, e1, can, e2)
		}
	}
}
