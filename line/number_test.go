package line_test

import (
	"math"
	"math/rand"
	"slices"
	"testing"

	"consort/api"
	"consort/line"
)

func span(low, high int) api.LineSpan { return api.LineSpan{Low: low, High: high} }

func TestNumberExamples(t *testing.T) {
	for _, x := range []struct {
		g    [][]int
		want []int
	}{
		{exampleG(), []int{0, 1, 2, 3, 4, 6, 5}},
		{nil, []int{0, 1, 2}},
		{[][]int{nil, nil}, []int{0, 1, 2, 3, 4}},
		{[][]int{nil, nil, {3}, {4}, {3}}, []int{0, 1, 2, 3, 5, 7, 4, 6}},
		{[][]int{nil, nil, {4, 3}, {5}, nil}, []int{0, 1, 2, 3, 4, 5, 6, 7}},
		// A graph with a conflict has a numbering, too.
		{exampleH(), []int{0, 1, 2, 3, 4, 6, 8, 5, 7}},
		{largest(), count(api.LineClasses + 3)},
	} {
		l, e := line.Number(x.g)
		wantList(t, "the numbering", l, e, x.want, api.OK)
	}
}

func TestSpansExamples(t *testing.T) {
	for _, x := range []struct {
		numbering []int
		class     int
		want      []api.LineSpan
	}{
		{[]int{0, 1, 2, 3, 4, 6, 5}, 0, []api.LineSpan{span(0, 6)}},
		{[]int{0, 1, 2, 3, 4, 6, 5}, 1, []api.LineSpan{span(1, 1)}},
		{[]int{0, 1, 2, 3, 4, 6, 5}, 3, []api.LineSpan{span(3, 6)}},
		{[]int{0, 1, 2, 3, 4, 6, 5}, 4, []api.LineSpan{span(4, 5)}},
		{[]int{0, 1, 2, 3, 4, 6, 5}, 5, []api.LineSpan{span(5, 6)}},
		{[]int{0, 1, 2, 3, 4, 5, 6}, 4, []api.LineSpan{span(4, 4), span(6, 6)}},
		{[]int{0, 1, 2, 3, 4, 5, 6}, 5, []api.LineSpan{span(5, 6)}},
		{[]int{6, 3, 1, 5, 2, 4, 0}, 3, []api.LineSpan{span(0, 1), span(3, 3), span(5, 5)}},
		{[]int{6, 3, 1, 5, 2, 4, 0}, 0, []api.LineSpan{span(0, 6)}},
	} {
		spans, e := line.Spans(exampleG(), x.numbering)
		if e != api.OK || len(spans) != 7 {
			t.Fatalf("by %v: %v (%d)", x.numbering, spans, e)
		}
		wantList(t, "the spans", spans[x.class], e, x.want, api.OK)
	}
	for _, l := range [][]int{nil, {0, 1, 2, 3, 4, 5}, {0, 1, 2, 3, 4, 5, 6, 7}, {0, 1, 2, 3, 4, 5, 5}, {0, 1, 2, 3, 4, 5, 7},
		{0, 1, 2, 3, 4, 5, -1}, {0, 1, 2, 3, 4, 5, math.MaxInt}, {1, 2, 3, 4, 5, 6, 7}, {0, 1, 2, 3, 4, 5, 6, 6}} {
		if spans, e := line.Spans(exampleG(), l); len(spans) > 0 || e != api.ErrArg {
			t.Errorf("%v is no numbering: %v (%d)", l, spans, e)
		}
	}
}

// spansByPlaces are the spans of a class, found place by place.
func spansByPlaces(o told, numbering []int, class int) []api.LineSpan {
	isBelow := func(at int) bool {
		return 0 <= at && at < len(numbering) && o.below[numbering[at]][class]
	}
	var spans []api.LineSpan
	for low := range numbering {
		high := low
		for isBelow(high + 1) {
			high++
		}
		if isBelow(low) && !isBelow(low-1) {
			spans = append(spans, span(low, high))
		}
	}
	return spans
}

func TestNumbering(t *testing.T) {
	r := rand.New(rand.NewSource(11))
	for g := range someGraphs() {
		o := tell(g)
		numbering, e := line.Number(g)
		wantList(t, "the numbering", numbering, e, o.number(), api.OK)
		for _, l := range [][]int{numbering, r.Perm(len(g) + 3)} {
			spans, e := line.Spans(g, l)
			if e != api.OK || len(spans) != len(l) {
				t.Fatalf("by %v: %v (%d)", l, spans, e)
			}
			for class, s := range spans {
				wantList(t, "the spans", s, e, spansByPlaces(o, l, class), api.OK)
				for at, c := range l {
					is, e := line.In(s, at)
					want(t, "what stands in a span is below", is && e == api.OK, o.below[c][class])
				}
			}
		}
		if t.Failed() {
			t.Fatalf("in %v", g)
		}
	}
}

func TestOneSpanInTrees(t *testing.T) {
	r := rand.New(rand.NewSource(12))
	for range 2000 {
		g := anyGraph(r, r.Intn(api.LineClasses+1))
		for i := range g {
			g[i] = g[i][:min(len(g[i]), 1)]
		}
		numbering, _ := line.Number(g)
		spans, e := line.Spans(g, numbering)
		for _, s := range spans {
			if len(s) != 1 || e != api.OK {
				t.Fatalf("spans of %v: %v (%d)", g, spans, e)
			}
		}
	}
}

func TestIn(t *testing.T) {
	spans := []api.LineSpan{span(-5, -3), span(-2, 0), span(2, 2), span(4, math.MaxInt)}
	for at, want := range map[int]bool{-6: false, -5: true, -4: true, -3: true, -2: true, 0: true, 1: false, 2: true, 3: false, 4: true,
		100: true, math.MaxInt: true, math.MinInt: false} {
		if is, e := line.In(spans, at); is != want || e != api.OK {
			t.Errorf("%d: %v (%d)", at, is, e)
		}
	}
	if is, e := line.In(nil, 0); is || e != api.OK {
		t.Errorf("no spans: %v (%d)", is, e)
	}
	if is, e := line.In([]api.LineSpan{span(math.MinInt, math.MaxInt)}, 7); !is || e != api.OK {
		t.Errorf("one span of all: %v (%d)", is, e)
	}
	for _, wrong := range [][]api.LineSpan{
		{span(1, 0)},
		{span(0, 1), span(3, 2)},
		{span(0, 2), span(2, 3)},
		{span(0, 2), span(1, 1)},
		{span(2, 3), span(0, 1)},
		{span(1, 1), span(1, 1)},
		{span(0, 0), span(2, 4), span(4, 5)},
		{span(math.MaxInt, math.MinInt)},
		{span(0, math.MaxInt), span(math.MinInt, 5)},
	} {
		// The position lies in the first span, or ahead of all: what follows is examined all the same.
		for _, at := range []int{wrong[0].Low, -10} {
			if is, e := line.In(wrong, at); is || e != api.ErrArg {
				t.Errorf("%v: %v (%d)", wrong, is, e)
			}
		}
	}
}

// TestSpansThatNeighbour puts two branches side by side: what is below both is one span.
func TestSpansThatNeighbour(t *testing.T) {
	g := [][]int{nil, nil, {3}, {4}, {3, 4}}
	spans, e := line.Spans(g, []int{3, 5, 7, 4, 6, 0, 1, 2})
	if e != api.OK {
		t.Fatal(e)
	}
	wantList(t, "the spans of 3", spans[3], e, []api.LineSpan{span(0, 2)}, api.OK)
	wantList(t, "the spans of 4", spans[4], e, []api.LineSpan{span(2, 4)}, api.OK)
	spans, e = line.Spans(g, []int{7, 3, 0, 5, 4, 1, 6, 2})
	wantList(t, "the spans of 3", spans[3], e, []api.LineSpan{span(0, 1), span(3, 3)}, api.OK)
	wantList(t, "the spans of 4", spans[4], e, []api.LineSpan{span(0, 0), span(4, 4), span(6, 6)}, api.OK)
	if !slices.Equal(spans[0], []api.LineSpan{span(0, 7)}) {
		t.Errorf("the spans of any: %v", spans[0])
	}
}
