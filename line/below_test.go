package line_test

import (
	"math"
	"slices"
	"testing"

	"consort/api"
	"consort/line"
)

// unformed are graphs that are not formed.
func unformed() [][][]int {
	return [][][]int{
		{{3}},
		{nil, {4}},
		{nil, {5}, nil},
		{nil, {0}},
		{nil, {1}},
		{nil, {2}},
		{nil, {-1}},
		{nil, {3, 3}},
		{nil, nil, {3, 4, 3}},
		{nil, nil, nil, nil, {3, 4, 5, 6}},
		{nil, {math.MinInt}},
		{nil, {math.MaxInt}},
		{nil, {3 + 64}},
		append(largest(), nil),
		append(exampleG(), []int{6, 7}),
	}
}

func TestCheck(t *testing.T) {
	for _, g := range unformed() {
		if line.Check(g) != api.ErrArg {
			t.Errorf("%v is formed", g)
		}
	}
	for _, g := range [][][]int{nil, {}, {nil}, {{}}, {nil, {3}}, exampleG(), exampleH(), ring3(), largest(), make([][]int, api.LineClasses)} {
		if e := line.Check(g); e != api.OK {
			t.Errorf("%v is not formed: %d", g, e)
		}
	}
	for g := range someGraphs() {
		if e := line.Check(g); e != api.OK {
			t.Fatalf("%v is not formed: %d", g, e)
		}
	}
}

func TestBelowExamples(t *testing.T) {
	above, e := line.Above(exampleG(), 6)
	wantList(t, "above 6", above, e, []int{0, 3, 4, 5, 6}, api.OK)
	under, e := line.Under(exampleG(), 3)
	wantList(t, "below 3", under, e, []int{3, 4, 5, 6}, api.OK)
	for pair, want := range map[[2]int]bool{
		{6, 3}: true, {3, 6}: false, {1, 0}: true, {2, 0}: true, {0, 0}: true, {0, 1}: false, {1, 1}: true, {1, 2}: false,
		{3, 1}: false, {1, 3}: false, {6, 0}: true, {4, 5}: false, {6, 6}: true,
	} {
		if is, e := line.Below(exampleG(), pair[0], pair[1]); is != want || e != api.OK {
			t.Errorf("%v: %v (%d)", pair, is, e)
		}
	}
}

func TestBelow(t *testing.T) {
	for g := range someGraphs() {
		o := tell(g)
		for _, a := range o.classes() {
			above, e := line.Above(g, a)
			wantList(t, "above", above, e, o.above(a), api.OK)
			under, e := line.Under(g, a)
			wantList(t, "below", under, e, o.under(a), api.OK)
			for _, b := range o.classes() {
				if is, e := line.Below(g, a, b); is != o.below[a][b] || e != api.OK {
					t.Fatalf("%d below %d in %v: %v (%d)", a, b, g, is, e)
				}
			}
		}
		if t.Failed() {
			t.Fatalf("in %v", g)
		}
	}
}

// TestAlienClasses asks all functions that are handed a class for others than those of the graph.
func TestAlienClasses(t *testing.T) {
	for _, g := range [][][]int{nil, exampleG(), exampleH(), largest()} {
		for _, class := range []int{-1, len(g) + 3, 64, math.MinInt, math.MaxInt} {
			for what, e := range askClass(g, class) {
				want(t, what, e, api.ErrArg)
			}
		}
	}
}

// TestUnformedGraphs asks all functions that are handed a graph.
func TestUnformedGraphs(t *testing.T) {
	for _, g := range unformed() {
		errors := askClass(g, 0)
		_, ring, e := line.Conflict(g)
		errors["Conflict"] = e
		numbering, e := line.Number(g)
		errors["Number"] = e
		spans, e := line.Spans(g, count(len(g)+3))
		errors["Spans"] = e
		for what, e := range errors {
			if e != api.ErrArg {
				t.Errorf("%s of %v: %d", what, g, e)
			}
		}
		if len(ring)+len(numbering)+len(spans) > 0 {
			t.Errorf("%v has results", g)
		}
	}
}

// askClass returns the errors of all functions that are handed a class.
func askClass(g [][]int, class int) map[string]api.Errno {
	errors := map[string]api.Errno{}
	_, errors["Below, first"] = line.Below(g, class, 0)
	_, errors["Below, second"] = line.Below(g, 0, class)
	_, errors["IsRing"] = line.IsRing(g, class, []int{3, 4})
	_, errors["Agrees"] = line.Agrees(g, class, []int{class, 0})
	for what, ask := range map[string]func([][]int, int) ([]int, api.Errno){
		"Above": line.Above,
		"Under": line.Under,
		"Lin":   line.Lin,
		"Heirs": func(g [][]int, class int) ([]int, api.Errno) { return line.Heirs(g, []int{0, class}) },
		"Least": func(g [][]int, class int) ([]int, api.Errno) { return line.Least(g, []int{class, 0, 0}) },
	} {
		var l []int
		if l, errors[what] = ask(g, class); errors[what] != api.OK && len(l) > 0 {
			errors[what+" returns something"] = api.OK
		}
	}
	return errors
}

func TestAboveAtTheLimit(t *testing.T) {
	last := api.LineClasses + 2
	all := slices.Insert(count(last + 1)[3:], 0, 0)
	above, e := line.Above(largest(), last)
	wantList(t, "above the last class", above, e, all, api.OK)
	under, e := line.Under(largest(), 3)
	wantList(t, "below the first class", under, e, all[1:], api.OK)
	under, e = line.Under(largest(), last)
	wantList(t, "below the last class", under, e, []int{last}, api.OK)
}
