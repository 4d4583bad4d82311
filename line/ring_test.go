package line_test

import (
	"math/rand"
	"slices"
	"testing"

	"consort/api"
	"consort/line"
)

func TestConflictExamples(t *testing.T) {
	for _, x := range []struct {
		g     [][]int
		class int
		ring  []int
		e     api.Errno
	}{
		{nil, 0, nil, api.ErrNone},
		{exampleG(), 0, nil, api.ErrNone},
		{largest(), 0, nil, api.ErrNone},
		{exampleH(), 8, []int{4, 5}, api.OK},
		{[][]int{nil, {3}, {3, 4}}, 5, []int{3, 4}, api.OK},
		{ring3(), 9, []int{3, 4, 5}, api.OK},
		{[][]int{nil, nil, nil, {4, 3}, {5, 4}, {3, 5}, {6, 7, 8}}, 9, []int{3, 5, 4}, api.OK},
		// The first class counts, though a later one has a smaller ring, and what is below it has none either.
		{append(ring3(), []int{9}, []int{4, 3}, []int{6, 11}), 9, []int{3, 4, 5}, api.OK},
		{[][]int{nil, nil, nil, {4, 3}, {3, 4}, {6, 7}, {3, 4, 6}, {5, 7}}, 8, []int{3, 4}, api.OK},
		// Of two rings of the same length the one with the lower class counts.
		{[][]int{nil, nil, nil, nil, {5, 6}, {6, 5}, {3, 7}, {3, 8}, {9, 10}}, 11, []int{5, 6}, api.OK},
		{[][]int{nil, nil, nil, {5, 4, 3}, {3, 4, 5}, {7, 6}}, 8, []int{3, 4}, api.OK},
		{ring4(), 10, []int{3, 4, 6}, api.OK},
	} {
		class, ring, e := line.Conflict(x.g)
		wantList(t, "the ring of the conflict", ring, e, x.ring, x.e)
		want(t, "the class of the conflict", class, x.class)
	}
}

func TestConflict(t *testing.T) {
	lengths := map[int]int{}
	for g := range someGraphs() {
		o := tell(g)
		wantClass, wantRing, is := o.conflict()
		wantErr := api.OK
		if !is {
			wantErr = api.ErrNone
		}
		class, ring, e := line.Conflict(g)
		wantList(t, "the ring of the conflict", ring, e, wantRing, wantErr)
		want(t, "the class of the conflict", class, wantClass)
		if is {
			r, e := line.IsRing(g, class, ring)
			want(t, "the ring is one", r && e == api.OK, true)
		}
		if t.Failed() {
			t.Fatalf("in %v", g)
		}
		lengths[len(ring)]++
	}
	if lengths[0] < 1000 || lengths[2] < 1000 || lengths[3] < 1 {
		t.Errorf("too few rings of a length: %v", lengths)
	}
}

// TestSmallestRings has graphs whose smallest rings are of three classes, and
// many rings besides.
func TestSmallestRings(t *testing.T) {
	r := rand.New(rand.NewSource(8))
	three := 0
	for range 3000 {
		l := r.Perm(6)
		for i := range l {
			l[i] += 3
		}
		a, b, c, d, e, f := l[0], l[1], l[2], l[3], l[4], l[5]
		pairs := [][]int{{a, b, d}, {b, c, e}, {c, a, f}}
		for _, p := range pairs {
			i, j := r.Intn(3), r.Intn(3)
			p[i], p[j] = p[j], p[i]
		}
		g := append(make([][]int, 6), pairs...)
		g = append(g, rename([]int{0, 1, 2}, rename(r.Perm(3), []int{9, 10, 11})))
		class, ring, is := tell(g).conflict()
		gotClass, got, err := line.Conflict(g)
		if !is {
			want(t, "no conflict", err, api.ErrNone)
			continue
		}
		wantList(t, "the ring of the conflict", got, err, ring, api.OK)
		want(t, "the class of the conflict", gotClass, class)
		if len(ring) == 3 {
			three++
		}
	}
	if three < 500 {
		t.Errorf("only %d rings of three classes", three)
	}
}

func TestIsRingExamples(t *testing.T) {
	for _, x := range []struct {
		g     [][]int
		class int
		ring  []int
		want  bool
		e     api.Errno
	}{
		{exampleH(), 8, []int{5, 4}, true, api.OK},
		{exampleH(), 8, []int{4, 5}, true, api.OK},
		{exampleH(), 8, []int{4, 5, 6}, false, api.OK},
		{exampleH(), 8, []int{4, 5, 4, 5}, false, api.OK},
		{exampleH(), 8, []int{4}, false, api.OK},
		{exampleH(), 8, []int{4, 4}, false, api.OK},
		{exampleH(), 8, nil, false, api.OK},
		{exampleH(), 8, []int{4, 99}, false, api.OK},
		{exampleH(), 8, []int{-1, 4}, false, api.OK},
		{exampleH(), 8, []int{0, 4}, false, api.OK},
		{exampleH(), 8, []int{8, 4}, false, api.OK},
		{exampleH(), 7, []int{4, 5}, false, api.OK},
		{exampleH(), 3, []int{3, 4}, false, api.OK},
		{ring3(), 9, []int{3, 4, 5}, true, api.OK},
		{ring3(), 9, []int{4, 5, 3}, true, api.OK},
		{ring3(), 9, []int{5, 4, 3}, false, api.OK},
		{ring3(), 9, []int{3, 4}, false, api.OK},
		{ring4(), 10, []int{3, 4, 5, 6}, true, api.OK},
		{ring4(), 10, []int{6, 3, 4, 5}, true, api.OK},
		{ring4(), 10, []int{3, 4, 6}, true, api.OK},
		{ring4(), 10, []int{3, 5, 4, 6}, false, api.OK},
		{exampleG(), 0, []int{3, 4}, false, api.ErrRule},
		{exampleG(), 1, nil, false, api.ErrRule},
		{exampleG(), 2, []int{99}, false, api.ErrRule},
		{append(exampleH(), []int{8}), 9, []int{4, 5}, false, api.ErrRule},
		{append(exampleH(), []int{3, 8}), 9, nil, false, api.ErrRule},
	} {
		if is, e := line.IsRing(x.g, x.class, x.ring); is != x.want || e != x.e {
			t.Errorf("%v is a ring of %d in %v: %v (%d)", x.ring, x.class, x.g, is, e)
		}
	}
}

// TestIsRing asks for all short lists of what stands in the lists of a class.
func TestIsRing(t *testing.T) {
	rings := map[int]int{}
	ask := func(g [][]int, o told, class int, list []int) bool {
		is, e := line.IsRing(g, class, list)
		if is != o.isRing(class, list) || e != api.OK {
			t.Fatalf("%v is a ring of %d in %v: %v (%d)", list, class, g, is, e)
		}
		return is
	}
	graphs := slices.AppendSeq([][][]int{exampleH(), ring3(), ring4()}, allGraphs(4))
	r := rand.New(rand.NewSource(13))
	for range 4 {
		g, _ := renumbered(r, ring4())
		graphs = append(graphs, g)
	}
	for _, g := range graphs {
		o := tell(g)
		for class := 3; class < len(g)+3; class++ {
			if _, ok := o.lists(class); !ok {
				_, e := line.IsRing(g, class, []int{3, 4})
				want(t, "a parent has no order", e, api.ErrRule)
				continue
			}
			found := false
			for length := range 5 {
				for list := range selections(o.above(class), length) {
					if ask(g, o, class, list) {
						rings[length]++
						found = true
						ask(g, o, class, append(list, list[0]))
					}
				}
			}
			_, e := line.Lin(g, class)
			want(t, "a class has a ring just if it has no order", found, e == api.ErrRule)
		}
	}
	if rings[2] < 100 || rings[3] < 50 || rings[4] < 20 {
		t.Errorf("too few rings of a length: %v", rings)
	}
}
