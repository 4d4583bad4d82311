package line_test

import (
	"iter"
	"math/rand"
	"slices"
	"testing"

	"consort/api"
)

func want[T comparable](t *testing.T, what string, got, want T) {
	t.Helper()
	if got != want {
		t.Errorf("%s: %v, not %v", what, got, want)
	}
}

// wantList holds a list that a call returned, and its error, against what it should return.
func wantList[T comparable](t *testing.T, what string, got []T, e api.Errno, want []T, wantErr api.Errno) {
	t.Helper()
	if !slices.Equal(got, want) || e != wantErr {
		t.Errorf("%s: %v (%d), not %v (%d)", what, got, e, want, wantErr)
	}
}

// The graphs of the chapter's examples.

func exampleG() [][]int { return [][]int{nil, {3}, {3}, {4, 5}} }

func exampleH() [][]int { return append(exampleG(), []int{5, 4}, []int{6, 7}) }

// ring3 has a class, 9, whose smallest rings are of three classes: each of its
// parents orders two of the classes 3, 4 and 5.
func ring3() [][]int {
	return [][]int{nil, nil, nil, {3, 4}, {4, 5}, {5, 3}, {6, 7, 8}}
}

// ring4 has a class, 10, with a ring of four classes, 3 4 5 6, among smaller ones.
func ring4() [][]int {
	return [][]int{nil, nil, nil, nil, {3, 4}, {4, 5, 6}, {6, 3}, {7, 8, 9}}
}

// largest has as many classes as a graph can have, and most of them as many parents.
func largest() [][]int {
	g := [][]int{nil, {3}, {4, 3}}
	for c := 6; len(g) < api.LineClasses; c++ {
		g = append(g, []int{c - 1, c - 2, c - 3})
	}
	return g
}

// choices are all lists of up to three different classes from 3 on that are less than a class.
func choices(class int) [][]int {
	l := [][]int{nil}
	for begin := 0; begin < len(l); begin++ {
		for c := 3; c < class && len(l[begin]) < api.FormParents; c++ {
			if !slices.Contains(l[begin], c) {
				l = append(l, append(slices.Clone(l[begin]), c))
			}
		}
	}
	return l
}

// allGraphs are all graphs of a number of lists.
func allGraphs(lists int) iter.Seq[[][]int] {
	return func(yield func([][]int) bool) {
		if lists == 0 {
			yield(nil)
			return
		}
		for g := range allGraphs(lists - 1) {
			for _, parents := range choices(lists + 2) {
				if !yield(append(slices.Clone(g), parents)) {
					return
				}
			}
		}
	}
}

// anyGraph is a graph of a number of lists. Its parents stand often by
// decreasing numbers, for else there is nearly always a conflict.
func anyGraph(r *rand.Rand, lists int) [][]int {
	var g [][]int
	tidy := r.Intn(10)
	for class := 3; class < lists+3; class++ {
		parents := r.Perm(class - 3)
		parents = parents[:min(r.Intn(api.FormParents+1), len(parents))]
		for i := range parents {
			parents[i] += 3
		}
		if r.Intn(10) <= tidy {
			slices.Sort(parents)
			slices.Reverse(parents)
		}
		g = append(g, parents)
	}
	return g
}

// someGraphs are all small graphs, and some of each larger size.
func someGraphs() iter.Seq[[][]int] {
	return func(yield func([][]int) bool) {
		for lists := range 6 {
			for g := range allGraphs(lists) {
				if !yield(g) {
					return
				}
			}
		}
		r := rand.New(rand.NewSource(3))
		for n := range 1500 {
			if !yield(anyGraph(r, 6+n%(api.LineClasses-5))) {
				return
			}
		}
	}
}
