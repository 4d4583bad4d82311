package fact_test

import (
	"fmt"
	"math"
	"math/rand"
	"slices"
	"testing"

	"consort/api"
	"consort/fact"
)

func TestProofExamples(t *testing.T) {
	for _, x := range []struct {
		a, b  string
		proof string
		e     api.Errno
	}{
		{"0 is 4", "0 is 3", "[[0 1]]", api.OK},
		{"0 is 4 and 1 is int", "0 is 3 or 1 = 2", "[[0 2]]", api.OK},
		{"0 is 3", "0 is 4", "[]", api.ErrNone},
		{"true", "true", "[]", api.OK},
		{"not true", "0 is 3", "[]", api.OK},
		{"true", "0 is any", "[[0]]", api.OK},
		{"true", "0 is 3", "[]", api.ErrNone},
		// What can be left out is left out from the front.
		{"0 is 4 and 0 is 3", "0 is 3", "[[1 2]]", api.OK},
		{"0 is 3 and 0 is 4", "0 is 3", "[[1 2]]", api.OK},
		{"0 is int and 0 is 3 and 0 is none", "not true", "[[1 2]]", api.OK},
		{"0 < 3 and 0 = 5 and 0 < 2", "0 is none", "[[1 2]]", api.OK},
		{"0 is int and not 0 = most and not 0 < most", "true and 0 is 3", "[[0 1 2]]", api.OK},
		{"0.0.1 < 3", "0.0 is 5 and 0 is 3", "[[0 1] [0 1]]", api.OK},
		{"0 is 4 or 0 is 6", "0 is 3 and 0.0 is any", "[[0 1] [0 1] [0 1] [0 1]]", api.OK},
		{"0 is 4 or 0 is 5", "0 is 3", "[]", api.ErrNone},
		{"0 is 4 and 0 is 5", "0.1 is any and 0.0 is any", "[[1 2] [0 2]]", api.OK},
		{"0 is 4 and not 0 is 4", "1 is 3", "[[0 1]]", api.OK},
	} {
		a, b := read(x.a), read(x.b)
		proof, e := fact.Proof(exampleW(), a, b)
		if fmt.Sprint(proof) != x.proof || e != x.e {
			t.Errorf("%s implies %s: %v (%d)", x.a, x.b, proof, e)
		}
		if is, e := fact.Proves(exampleW(), a, b, proof); x.e == api.OK && (!is || e != api.OK) {
			t.Errorf("%v proves that %s implies %s: %v (%d)", proof, x.a, x.b, is, e)
		}
	}
}

func TestProvesExamples(t *testing.T) {
	for _, x := range []struct {
		a, b  string
		proof [][]int
		is    bool
		e     api.Errno
	}{
		{"0 is 4", "0 is 3", [][]int{{0, 1}}, true, api.OK},
		{"0 is 4", "0 is 3", [][]int{{0}}, false, api.OK},
		{"0 is 4", "0 is 3", [][]int{{1}}, false, api.OK},
		{"0 is 4", "0 is 3", [][]int{{}}, false, api.OK},
		{"0 is 4", "0 is 3", nil, false, api.ErrArg},
		{"0 is 4", "0 is 3", [][]int{{0, 1}, {0, 1}}, false, api.ErrArg},
		{"0 is 4", "0 is 3", [][]int{{1, 0}}, false, api.ErrArg},
		{"0 is 4", "0 is 3", [][]int{{0, 0}}, false, api.ErrArg},
		{"0 is 4", "0 is 3", [][]int{{0, 1, 1}}, false, api.ErrArg},
		{"0 is 4", "0 is 3", [][]int{{0, 2}}, false, api.ErrArg},
		{"0 is 4", "0 is 3", [][]int{{-1, 0, 1}}, false, api.ErrArg},
		{"0 is 4", "0 is 3", [][]int{{math.MinInt, math.MaxInt}}, false, api.ErrArg},
		{"0 is 3", "0 is 4", [][]int{{0, 1}}, false, api.OK},
		{"0 is 3", "0 is 4", [][]int{{0, 1, 2}}, false, api.ErrArg},
		// More than is needed proves it, too.
		{"0 is 4 and 1 is int", "0 is 3 or 1 = 2", [][]int{{0, 1, 2, 3}}, true, api.OK},
		{"0 is 4 and 1 is int", "0 is 3 or 1 = 2", [][]int{{0, 2, 3}}, true, api.OK},
		{"0 is 4 and 1 is int", "0 is 3 or 1 = 2", [][]int{{0, 1, 3}}, false, api.OK},
		{"true", "true", nil, true, api.OK},
		{"true", "true", [][]int{nil}, false, api.ErrArg},
		{"0 is 4 or 0 is 6", "0 is 3", [][]int{{0, 1}, {0, 1}}, true, api.OK},
		{"0 is 4 or 0 is 6", "0 is 3", [][]int{{0, 1}, {0}}, false, api.OK},
		{"0 is 4 or 0 is 6", "0 is 3", [][]int{{0}, {0, 1}}, false, api.OK},
		// All lists are examined ahead of what they say.
		{"0 is 4 or 0 is 6", "0 is 3", [][]int{{0}, {2}}, false, api.ErrArg},
		{"0 is 4 or 0 is 6", "0 is 3", [][]int{{0, 1}}, false, api.ErrArg},
		// A literal that stands there already has no second number.
		{"0 is 4 and not 0 is 3", "0 is 3", [][]int{{0, 1}}, true, api.OK},
		{"0 is 4 and not 0 is 3", "0 is 3", [][]int{{0, 2}}, false, api.ErrArg},
	} {
		if is, e := fact.Proves(exampleW(), read(x.a), read(x.b), x.proof); is != x.is || e != x.e {
			t.Errorf("%v proves that %s implies %s: %v (%d)", x.proof, x.a, x.b, is, e)
		}
	}
}

func TestProofAndProves(t *testing.T) {
	needed := map[int]int{}
	someFacts(t, 49, 2500, 2, func(r *rand.Rand, s survey, w api.FactWorld, l []api.Fact) {
		wantProof(t, s, w, l[0], l[1])
		wantProvesSome(t, r, s, w, l[0], l[1])
		proof, _ := fact.Proof(w, l[0], l[1])
		for _, numbers := range proof {
			needed[len(numbers)]++
		}
	})
	// Few integers, so that many literals together leave none.
	r := rand.New(rand.NewSource(52))
	for range 600 {
		l := []api.Fact{not(less(0, r.Intn(3))), less(0, 2+r.Intn(3)), not(same(0, r.Intn(4))), not(same(0, r.Intn(4)))}
		r.Shuffle(len(l), func(i, j int) { l[i], l[j] = l[j], l[i] })
		a, b := all(and, l...), or(same(0, r.Intn(4)), not(is(0, 1)))
		if r.Intn(2) == 0 {
			b = or(same(0, r.Intn(4)), b)
		}
		s, _ := surveyed(empty(), a, b)
		wantProof(t, s, empty(), a, b)
		proof, _ := fact.Proof(empty(), a, b)
		for _, numbers := range proof {
			needed[len(numbers)]++
		}
	}
	if needed[1] < 500 || needed[2] < 500 || needed[3] < 50 || needed[4] < 10 {
		t.Errorf("too few lists of a length: %v", needed)
	}
}

// wantProof holds the proof that a implies b against what is told of it, and
// asks whether it is one, and none without one of its numbers.
func wantProof(t *testing.T, s survey, w api.FactWorld, a, b api.Fact) {
	t.Helper()
	proof, e := fact.Proof(w, a, b)
	if !s.implies(a, b) {
		if proof != nil || e != api.ErrNone {
			t.Errorf("%s does not imply %s in %v: %v (%d)", text(a), text(b), w, proof, e)
		}
		return
	}
	if wanted := s.proof(a, b); fmt.Sprint(proof) != fmt.Sprint(wanted) || e != api.OK {
		t.Errorf("%s implies %s in %v: %v (%d), not %v", text(a), text(b), w, proof, e, wanted)
	}
	wantProves(t, w, a, b, proof, true)
	for i, numbers := range proof {
		for n := range numbers {
			fewer := slices.Clone(proof)
			fewer[i] = slices.Delete(slices.Clone(numbers), n, n+1)
			wantProves(t, w, a, b, fewer, false)
		}
	}
}

// wantProvesSome asks whether any lists are a proof.
func wantProvesSome(t *testing.T, r *rand.Rand, s survey, w api.FactWorld, a, b api.Fact) {
	t.Helper()
	var some [][]int
	told := true
	for _, literals := range casesOf(and(a, not(b)), false) {
		which := make([]bool, len(literals))
		var numbers []int
		for i := range literals {
			if which[i] = r.Intn(4) > 0; which[i] {
				numbers = append(numbers, i)
			}
		}
		some = append(some, numbers)
		told = told && !s.together(chosen(literals, which))
	}
	wantProves(t, w, a, b, some, told)
}

func wantProves(t *testing.T, w api.FactWorld, a, b api.Fact, proof [][]int, is bool) {
	t.Helper()
	if got, e := fact.Proves(w, a, b, proof); got != is || e != api.OK {
		t.Errorf("%v proves that %s implies %s in %v: %v (%d)", proof, text(a), text(b), w, got, e)
	}
}

// choice is a fact of so many cases, product of the numbers of its alternatives.
func choice(from int, alternatives ...int) api.Fact {
	var l []api.Fact
	for _, n := range alternatives {
		l = append(l, bush(or, times(n, func(int) api.Fact {
			from++
			return less(0, from)
		})...))
	}
	return bush(and, l...)
}

func TestProofLimits(t *testing.T) {
	never := read("1 is int and 1 is 3")
	w := exampleW()
	for _, x := range []struct {
		cases int
		a, b  api.Fact
	}{
		{400, choice(0, 5, 4), not(choice(100, 5, 4))},
		{405, choice(0, 3, 3, 3), not(choice(100, 5, 3))},
		{81 * 81, choice(0, 3, 3, 3, 3), not(choice(100, 3, 3, 3, 3))},
		{81, choice(0, 3, 3, 3, 3), not(is(0, 1))},
	} {
		list := casesOf(and(x.a, not(x.b)), false)
		want(t, "cases", len(list), x.cases)
		proof, e := fact.Proof(w, x.a, x.b)
		_, e2 := fact.Proves(w, x.a, x.b, make([][]int, x.cases))
		_, e3 := fact.Proves(w, x.a, x.b, [][]int{{-1}})
		wanted := [3]api.Errno{api.ErrNone, api.OK, api.ErrArg}
		if x.cases > api.FactCases {
			wanted = [3]api.Errno{api.ErrLong, api.ErrLong, api.ErrLong}
		}
		if proof != nil || [3]api.Errno{e, e2, e3} != wanted {
			t.Errorf("%d cases: %v, %d %d %d", x.cases, proof, e, e2, e3)
		}
	}
	a, b := and(never, choice(0, 5, 4)), not(choice(100, 5, 4))
	proof, e := fact.Proof(w, a, b)
	if len(proof) != api.FactCases || e != api.OK || slices.ContainsFunc(proof, func(l []int) bool { return !slices.Equal(l, []int{0, 1}) }) {
		t.Errorf("a proof with as many cases as there can be: %v (%d)", proof, e)
	}
	bad := api.FactWorld{Owner: []int{3}}
	many := choice(0, 3, 3, 3, 3)
	for i, x := range []struct {
		w    api.FactWorld
		a, b api.Fact
	}{{bad, yes(), yes()}, {w, api.Fact{}, yes()}, {w, yes(), api.Fact{}}, {w, is(0, 7), not(many)}, {w, many, is(0, 3, 2)}, {w, many, nots(12, yes())}} {
		proof, e := fact.Proof(x.w, x.a, x.b)
		is, e2 := fact.Proves(x.w, x.a, x.b, nil)
		if proof != nil || is || e != api.ErrArg || e2 != api.ErrArg {
			t.Errorf("%d is not formed: %v (%d), %v (%d)", i, proof, e, is, e2)
		}
	}
}
