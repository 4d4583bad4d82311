package line_test

import (
	"math/rand"
	"slices"
	"testing"

	"consort/api"
	"consort/line"
)

func TestCommonExamples(t *testing.T) {
	for _, x := range []struct {
		g            [][]int
		l            []int
		heirs, least []int
	}{
		{exampleG(), []int{4, 5}, []int{6}, []int{3}},
		{exampleH(), []int{6, 7}, []int{8}, []int{4, 5}},
		{exampleG(), []int{1, 6}, nil, []int{0}},
		{exampleG(), []int{1, 2}, nil, []int{0}},
		{exampleG(), []int{6}, []int{6}, []int{6}},
		{exampleG(), []int{0}, []int{0, 1, 2, 3, 4, 5, 6}, []int{0}},
		{exampleG(), []int{3, 0, 3}, []int{3, 4, 5, 6}, []int{0}},
		{exampleG(), []int{1}, []int{1}, []int{1}},
		{exampleG(), nil, []int{0, 1, 2, 3, 4, 5, 6}, []int{1, 2, 6}},
		{nil, nil, []int{0, 1, 2}, []int{1, 2}},
		{[][]int{nil, nil}, nil, []int{0, 1, 2, 3, 4}, []int{1, 2, 3, 4}},
		{exampleH(), []int{3, 4, 5, 6, 7, 8}, []int{8}, []int{3}},
		// Many times one class: as many as there may be.
		{exampleG(), slices.Repeat([]int{6}, api.LineClasses), []int{6}, []int{6}},
		{largest(), count(api.LineClasses + 3)[3:], []int{18}, []int{3}},
	} {
		heirs, e := line.Heirs(x.g, x.l)
		wantList(t, "the heirs", heirs, e, x.heirs, api.OK)
		least, e := line.Least(x.g, x.l)
		wantList(t, "the least common classes", least, e, x.least, api.OK)
	}
	many := slices.Repeat([]int{6}, api.LineClasses+1)
	l, e := line.Heirs(exampleG(), many)
	wantList(t, "the heirs of too many classes", l, e, nil, api.ErrArg)
	l, e = line.Least(exampleG(), many)
	wantList(t, "the least classes above too many", l, e, nil, api.ErrArg)
}

func TestCommon(t *testing.T) {
	r := rand.New(rand.NewSource(7))
	several := 0
	for g := range someGraphs() {
		o := tell(g)
		for range 6 {
			l := make([]int, r.Intn(4))
			for i := range l {
				l[i] = r.Intn(len(o.parents))
			}
			heirs, e := line.Heirs(g, l)
			wantList(t, "the heirs", heirs, e, o.heirs(l), api.OK)
			least, e := line.Least(g, l)
			wantList(t, "the least common classes", least, e, o.least(l), api.OK)
			if len(l) > 0 && len(least) > 1 {
				several++
			}
			wantAllAbove(t, o, l, least)
			if t.Failed() {
				t.Fatalf("%v in %v", l, g)
			}
		}
	}
	if several < 100 {
		t.Errorf("only %d lists have several least common classes", several)
	}
}

// wantAllAbove holds each class that is above all of some classes against the least ones.
func wantAllAbove(t *testing.T, o told, l, least []int) {
	t.Helper()
	for _, c := range o.classes() {
		isAbove := !slices.ContainsFunc(l, func(x int) bool { return !o.below[x][c] })
		if isAbove && !slices.ContainsFunc(least, func(x int) bool { return o.below[x][c] }) {
			t.Errorf("%d is above %v, but not above one of %v", c, l, least)
		}
	}
}
