package fact_test

import (
	"math/rand"
	"testing"

	"consort/api"
	"consort/fact"
)

func TestShortExamples(t *testing.T) {
	for _, x := range []struct{ f, short string }{
		{"0 is 4 and 0 is 3", "0 is 4"},
		{"0 is int or not 0 is int", "true"},
		{"0 < 3 and 0 is 3", "not true"},
		{"true", "true"}, {"not true", "not true"}, {"not not true", "true"}, {"not not not true", "not true"},
		{"0 is 3", "0 is 3"}, {"not 0 is 3", "not 0 is 3"}, {"0 is any", "true"}, {"not 0 is any", "not true"},
		{"0 < least", "not true"}, {"0 < most", "0 < most"}, {"not 0 < least", "true"},
		{"0 is 3 and 0 is 4", "0 is 4"}, {"0 is 3 or 0 is 4", "0 is 3"}, {"0 is 4 or 0 is 3", "0 is 3"},
		{"0 is 4 and 0 is 5", "0 is 4 and 0 is 5"}, {"0 is 4 or 0 is 5", "0 is 4 or 0 is 5"},
		{"0 is 3 and 0 is 3", "0 is 3"}, {"0 is 3 and true", "0 is 3"}, {"true and 0 is 3", "0 is 3"}, {"0 is 3 or not true", "0 is 3"},
		{"0.0 < 7 and 0 is 3", "0.0 < 7"}, {"0 is 3 and 0.0 is any", "0 is 3"}, {"0.0 is any and 0 is 3", "0.0 is any"},
		{"0 is 3 and (0 is 4 or 1 is 5)", "0 is 3 and (0 is 4 or 1 is 5)"}, {"0 is 3 and (0 is 3 or 1 is 5)", "0 is 3"},
		{"0 is 3 and (0 is int or 1 is 5)", "0 is 3 and 1 is 5"}, {"0 is 3 and (not 0 is 3 or 1 is 5)", "0 is 3 and 1 is 5"},
		{"(0 is int and 1 is int) or (0 is int and not 1 is int)", "0 is int"},
		{"(0 is int or 1 is int) and (0 is int or not 1 is int)", "0 is int"},
		// No step puts a Kid of a Kid in place of a node.
		{"not not 0 is 4 and 1 is int", "not not 0 is 4 and 1 is int"}, {"not not 0 is 4", "not not 0 is 4"}, {"not (0 is 4 and not not 0 is 3)", "not 0 is 4"},
		// The first step counts, though another one would leave less.
		{"(0 is 3 or 1 is 3) and (0 is 3 or 1 is 3)", "0 is 3 or 1 is 3"},
		{"0 is 3 and 1 is 3 or 0 is 4 and 1 is 4", "0 is 3 and 1 is 3"},
		{"(0 is 3 or 0 is int) and (0 is int or 0 is 3)", "0 is 3 or 0 is int"},
		{"(0 is 4 and 1 is int or 0 is 3) and (1 is int or true)", "0 is 3"}, {"not (0 is 4 and true)", "not 0 is 4"},
		{"0 < 4 and not 0 = 3", "0 < 4 and not 0 = 3"}, {"0 < 4 and not 0 = 4", "0 < 4"}, {"not 0 is int and 0 is none", "0 is none"},
		{"0 is int and not 0 < most", "0 is int and not 0 < most"}, {"0 = most and not 0 < most", "0 = most"},
	} {
		short, e := fact.Short(exampleW(), read(x.f))
		s, _ := surveyed(exampleW(), read(x.f))
		told := text(s.short(read(x.f)))
		if text(short) != told || e != api.OK {
			t.Errorf("%s made short: %s (%d), not %s", x.f, text(short), e, told)
		}
		want(t, x.f+" made short", text(short), text(read(x.short)))
	}
}

func TestShort(t *testing.T) {
	became := map[string]int{}
	someFacts(t, 50, 1000, 1, func(_ *rand.Rand, s survey, w api.FactWorld, l []api.Fact) {
		f := l[0]
		short, e := fact.Short(w, f)
		if wanted := s.short(f); text(short) != text(wanted) || e != api.OK {
			t.Fatalf("%s made short in %v: %s (%d), not %s", text(f), w, text(short), e, text(wanted))
		}
		wantShort(t, w, f, short)
		switch {
		case text(short) == text(f):
			became["the same"]++
		case size(short) > 2:
			became["something shorter"]++
		default:
			became[text(short)]++
		}
	})
	for _, x := range []string{"the same", "something shorter", "true", "not (true)"} {
		if became[x] < 100 {
			t.Errorf("too few became %s: %v", x, became)
		}
	}
}

// wantShort holds a fact that was made short against what is promised of such ones.
func wantShort(t *testing.T, w api.FactWorld, f, short api.Fact) {
	t.Helper()
	if !implies(t, w, f, short) || !implies(t, w, short, f) {
		t.Errorf("%s became %s", text(f), text(short))
	}
	if size(short) > size(f) && text(short) != text(not(yes())) {
		t.Errorf("%s became longer: %s", text(f), text(short))
	}
	again, e := fact.Short(w, short)
	if text(again) != text(short) || e != api.OK {
		t.Errorf("%s made short again: %s (%d)", text(short), text(again), e)
	}
}

func TestShortOfTheLargestFacts(t *testing.T) {
	r := rand.New(rand.NewSource(51))
	w := wide(60, 40)
	for range 60 {
		f := maker{r, w, 3, 40}.formed(12)
		short, e := fact.Short(w, f)
		want(t, text(f)+" made short", e, api.OK)
		wantShort(t, w, f, short)
	}
	for _, f := range []api.Fact{choice(0, 3, 3, 3, 3), not(choice(0, 3, 3, 3, 3)), bush(and, times(12, isNumber)...), bush(or, times(12, isNumber)...), nots(11, is(0, 3))} {
		short, e := fact.Short(w, f)
		want(t, text(f)+" made short", e, api.OK)
		wantShort(t, w, f, short)
	}
	for i, x := range []struct {
		w api.FactWorld
		f api.Fact
	}{{api.FactWorld{Owner: []int{3}}, yes()}, {w, api.Fact{}}, {w, is(0, 63)}, {w, nots(12, yes())}} {
		if short, e := fact.Short(x.w, x.f); text(short) != text(api.Fact{}) || e != api.ErrArg {
			t.Errorf("%d is not formed: %s (%d)", i, text(short), e)
		}
	}
}
