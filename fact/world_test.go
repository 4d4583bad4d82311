package fact_test

import (
	"math"
	"math/rand"
	"slices"
	"testing"

	"consort/api"
	"consort/fact"
)

// parentsOfAll are the parents of a class below all ahead of it, from the last one on.
func parentsOfAll(class int) []int {
	var l []int
	for p := class - 1; p >= 3; p-- {
		l = append(l, p)
	}
	return l
}

func TestCheck(t *testing.T) {
	limit := api.FactWorld{Parents: make([][]int, api.FactClasses), Owner: slices.Repeat([]int{62}, api.FactSlots)}
	limit.Parents[59] = parentsOfAll(62)
	for i, x := range []struct {
		w      api.FactWorld
		formed bool
	}{
		{empty(), true},
		{exampleW(), true},
		{limit, true},
		{wide(60, 40), true},
		{api.FactWorld{Parents: [][]int{{}}, Owner: []int{}}, true},
		{api.FactWorld{Parents: make([][]int, 61)}, false},
		{api.FactWorld{Parents: [][]int{nil}, Owner: slices.Repeat([]int{3}, 40)}, true},
		{api.FactWorld{Parents: [][]int{nil}, Owner: slices.Repeat([]int{3}, 41)}, false},
		{api.FactWorld{Parents: [][]int{nil, nil, nil, nil, {3, 4, 5, 6}}}, true},
		{api.FactWorld{Parents: [][]int{{3}}}, false},
		{api.FactWorld{Parents: [][]int{{4}, nil}}, false},
		{api.FactWorld{Parents: [][]int{nil, {0}}}, false},
		{api.FactWorld{Parents: [][]int{nil, {1}}}, false},
		{api.FactWorld{Parents: [][]int{nil, {2}}}, false},
		{api.FactWorld{Parents: [][]int{nil, {-1}}}, false},
		{api.FactWorld{Parents: [][]int{nil, {math.MaxInt}}}, false},
		{api.FactWorld{Parents: [][]int{nil, {3, 3}}}, false},
		{api.FactWorld{Parents: [][]int{nil, nil, {3, 4, 3}}}, false},
		{api.FactWorld{Parents: [][]int{nil, {3}, {3, 4}}}, true},
		{api.FactWorld{Owner: []int{3}}, false},
		{api.FactWorld{Owner: []int{0}}, false},
		{api.FactWorld{Parents: [][]int{nil}, Owner: []int{3, 4}}, false},
		{api.FactWorld{Parents: [][]int{nil}, Owner: []int{2}}, false},
		{api.FactWorld{Parents: [][]int{nil}, Owner: []int{3, -3}}, false},
		{api.FactWorld{Parents: [][]int{nil}, Owner: []int{math.MinInt}}, false},
	} {
		e := api.OK
		if !x.formed {
			e = api.ErrArg
		}
		if fact.Check(x.w) != e || fact.Formed(x.w, yes()) != e {
			t.Errorf("world %d: Check %d, Formed %d", i, fact.Check(x.w), fact.Formed(x.w, yes()))
		}
		if _, got := fact.Below(x.w, 0, 0); got != e {
			t.Errorf("world %d: Below %d", i, got)
		}
	}
}

// TestFormedNodes has, for each kind, nodes with all that kinds can have, and
// with what no kind can have.
func TestFormedNodes(t *testing.T) {
	w := exampleW()
	kids := []api.Fact{yes(), yes(), yes()}
	for op := api.FactOp(-1); op <= api.FactOr+1; op++ {
		asks := api.FactIs <= op && op <= api.FactSame
		number := op == api.FactLess || op == api.FactSame
		for _, arg := range []int{-1, 0, 1, 2, 3} {
			for _, path := range [][]int{nil, {0}, {1, 0}, {0, 0}, {2}, {-1}, {0, 2}, {0, 0, 0}} {
				for _, class := range []int{-1, 0, 2, 6, 7} {
					for _, n := range []int{0, 1, api.FormMost, -api.FormMost, api.FormMost + 1, -api.FormMost - 1} {
						for count := range len(kids) + 1 {
							wantKids := max(0, int(op)-int(api.FactNot)+1)
							if op == api.FactOr {
								wantKids = 2
							}
							is := api.FactTrue <= op && op <= api.FactOr && count == wantKids
							is = is && (arg == 0 || asks && 0 < arg && arg < 3)
							is = is && (path == nil || asks && len(path) < 3 && !slices.Contains(path, 2) && !slices.Contains(path, -1))
							is = is && (class == 0 || op == api.FactIs && 0 < class && class < 7)
							is = is && (n == 0 || number && -api.FormMost <= n && n <= api.FormMost)
							f := api.Fact{Op: op, Arg: arg, Path: path, Class: class, N: n, Kids: kids[:count]}
							if (fact.Formed(w, f) == api.OK) != is || (fact.Formed(w, or(yes(), f)) == api.OK) != is {
								t.Fatalf("%#v: formed %v", f, !is)
							}
						}
					}
				}
			}
		}
	}
}

func TestFormedLimits(t *testing.T) {
	w := exampleW()
	twelve := bush(and, times(12, isNumber)...)
	for i, x := range []struct {
		f      api.Fact
		formed bool
	}{
		{yes(), true},
		{nots(11, is(0, 3)), true},
		{nots(12, is(0, 3)), false},
		{nots(11, yes()), true},
		{and(yes(), nots(10, yes())), true},
		{and(yes(), nots(11, yes())), false},
		{or(nots(11, yes()), yes()), false},
		{twelve, true},
		{not(twelve), true},
		{and(yes(), twelve), false},
		{not(not(twelve)), false},
		{all(and, times(12, isNumber)...), true},
		{all(or, times(13, isNumber)...), false},
		{api.Fact{Op: api.FactTrue, Path: []int{}, Kids: []api.Fact{}}, true},
		{is(0, 3, []int{}...), true},
		{is(0, 63), false},
		{api.Fact{}, false},
		{not(api.Fact{}), false},
	} {
		if got := fact.Formed(w, x.f) == api.OK; got != x.formed {
			t.Errorf("fact %d: formed %v", i, got)
		}
	}
	big := wide(60, 40)
	want(t, "the last class", fact.Formed(big, is(2, 62, 39, 39)), api.OK)
	want(t, "a class behind it", fact.Formed(big, is(2, 63, 39, 39)), api.ErrArg)
	want(t, "a slot behind the last one", fact.Formed(big, is(2, 62, 39, 40)), api.ErrArg)
	want(t, "any in a world without classes", fact.Formed(empty(), read("0 is any and 1 is none")), api.OK)
	want(t, "a class in it", fact.Formed(empty(), read("0 is 3")), api.ErrArg)
	want(t, "a slot in it", fact.Formed(empty(), read("0.0 is any")), api.ErrArg)
	want(t, "a fact of a world that is not formed", fact.Formed(api.FactWorld{Owner: []int{3}}, yes()), api.ErrArg)
}

func TestBelow(t *testing.T) {
	for _, x := range []struct {
		a, b int
		is   bool
		e    api.Errno
	}{
		{6, 3, true, api.OK}, {4, 5, false, api.OK}, {2, 0, true, api.OK}, {7, 3, false, api.ErrArg},
		{3, 6, false, api.OK}, {6, 6, true, api.OK}, {0, 0, true, api.OK}, {0, 3, false, api.OK},
		{1, 2, false, api.OK}, {1, 1, true, api.OK}, {1, 3, false, api.OK}, {3, 1, false, api.OK},
		{3, 7, false, api.ErrArg}, {-1, 0, false, api.ErrArg}, {0, -1, false, api.ErrArg},
		{math.MaxInt, 0, false, api.ErrArg}, {0, math.MinInt, false, api.ErrArg},
	} {
		if is, e := fact.Below(exampleW(), x.a, x.b); is != x.is || e != x.e {
			t.Errorf("%d below %d: %v (%d)", x.a, x.b, is, e)
		}
	}
	r := rand.New(rand.NewSource(41))
	worlds := []api.FactWorld{empty(), wide(60, 40)}
	for n := range 200 {
		worlds = append(worlds, anyWorld(r, n%(api.FactClasses+1), 0))
	}
	for _, w := range worlds {
		below := tell(w).below
		for a := range below {
			for b := range below {
				if is, e := fact.Below(w, a, b); is != below[a][b] || e != api.OK {
					t.Fatalf("%d below %d in %v: %v (%d)", a, b, w, is, e)
				}
			}
		}
	}
}
