package line_test

import (
	"math"
	"math/rand"
	"reflect"
	"slices"
	"testing"

	"consort/api"
	"consort/line"
)

// results are what all functions return for some arguments.
func results(g [][]int, a, b int, l []int, spans []api.LineSpan) []any {
	var all []any
	add := func(values ...any) { all = append(all, values...) }
	add(line.Check(g))
	below, e1 := line.Below(g, a, b)
	above, e2 := line.Above(g, a)
	under, e3 := line.Under(g, a)
	lin, e4 := line.Lin(g, a)
	add(below, e1, above, e2, under, e3, lin, e4)
	class, ring, e5 := line.Conflict(g)
	isRing, e6 := line.IsRing(g, a, l)
	agrees, e7 := line.Agrees(g, a, l)
	add(class, ring, e5, isRing, e6, agrees, e7)
	heirs, e8 := line.Heirs(g, l)
	least, e9 := line.Least(g, l)
	number, e10 := line.Number(g)
	places, e11 := line.Spans(g, l)
	in, e12 := line.In(spans, a)
	add(heirs, e8, least, e9, number, e10, places, e11, in, e12)
	return all
}

// TestEndlessArguments asks with graphs and lists that are as long as can be.
func TestEndlessArguments(t *testing.T) {
	long := count(1 << 20)
	same := slices.Repeat([]int{3}, 1<<20)
	wide := make([]api.LineSpan, 1<<20)
	for i := range wide {
		wide[i] = span(2*i, 2*i)
	}
	graphs := [][][]int{
		make([][]int, 1<<20),
		slices.Repeat([][]int{long}, 1<<20),
		{nil, long},
		{nil, same},
		largest(),
	}
	for _, g := range graphs {
		for _, l := range [][]int{nil, long, same, long[3:], slices.Repeat([]int{3, 4}, 1<<19), slices.Repeat([]int{math.MaxInt}, 1<<20)} {
			for _, class := range []int{0, 3, 18, -1, math.MinInt, math.MaxInt} {
				results(g, class, 0, l, wide)
				results(g, 0, class, l, make([]api.LineSpan, 1<<10))
			}
		}
	}
	if is, e := line.In(wide, 2<<20-2); !is || e != api.OK {
		t.Errorf("many spans: %v (%d)", is, e)
	}
	if is, e := line.IsRing(exampleH(), 8, slices.Repeat([]int{4, 5}, 1<<19)); is || e != api.OK {
		t.Errorf("a long ring: %v (%d)", is, e)
	}
	if is, e := line.Agrees(exampleG(), 6, append([]int{6, 4, 5}, same...)); is || e != api.OK {
		t.Errorf("a long list: %v (%d)", is, e)
	}
}

// odd is a number that a class can be, or nearly.
func odd(r *rand.Rand) int {
	if r.Intn(8) > 0 {
		return r.Intn(22) - 1
	}
	return []int{math.MinInt, math.MaxInt, 64, 67, -64, 1 << 32}[r.Intn(6)]
}

func oddList(r *rand.Rand, most int) []int {
	l := make([]int, r.Intn(most))
	for i := range l {
		l[i] = odd(r)
	}
	return l
}

func copyLists[T any](l [][]T) [][]T {
	var out [][]T
	for _, x := range l {
		out = append(out, slices.Clone(x))
	}
	return out
}

// TestAnyArguments asks with anything: arguments stay as they are, the results
// are those that the same arguments have again, and with an error there are none.
func TestAnyArguments(t *testing.T) {
	r := rand.New(rand.NewSource(10))
	for n := range 4000 {
		g := anyGraph(r, r.Intn(api.LineClasses+1))
		if n%2 == 0 {
			g = append(g, oddList(r, 6))
		}
		a, b, l := odd(r), odd(r), oddList(r, 20)
		if n%3 == 0 {
			l = r.Perm(len(g) + 3)
		}
		spans := make([]api.LineSpan, r.Intn(4))
		for i := range spans {
			spans[i] = span(odd(r), odd(r))
		}
		before, list, intervals := copyLists(g), slices.Clone(l), slices.Clone(spans)
		first := results(g, a, b, l, spans)
		if !reflect.DeepEqual(before, copyLists(g)) || !slices.Equal(list, l) || !slices.Equal(intervals, spans) {
			t.Fatalf("arguments were changed: %v", before)
		}
		if !reflect.DeepEqual(first, results(copyLists(g), a, b, list, intervals)) {
			t.Fatalf("%v has other results", g)
		}
		wantNothingWithErrors(t, first)
	}
}

func wantNothingWithErrors(t *testing.T, all []any) {
	t.Helper()
	var with []any
	for _, x := range all {
		e, is := x.(api.Errno)
		if !is {
			with = append(with, x)
			continue
		}
		for _, y := range with {
			if e != api.OK && !reflect.ValueOf(y).IsZero() {
				t.Errorf("%v with the error %d", y, e)
			}
		}
		with = nil
	}
}

// TestResultsShareNothing writes over results and behind them.
func TestResultsShareNothing(t *testing.T) {
	g := ring3()
	before := copyLists(g)
	for class := range len(g) + 3 {
		for _, ask := range []func([][]int, int) ([]int, api.Errno){line.Above, line.Under, line.Lin} {
			l, _ := ask(g, class)
			scribble(l)
		}
	}
	_, ring, _ := line.Conflict(g)
	numbering, _ := line.Number(g)
	list := slices.Clone(numbering)
	spans, _ := line.Spans(g, numbering)
	whole := copyLists(spans)
	for i := range spans {
		full := spans[i][:cap(spans[i])]
		for j := range full {
			full[j] = span(-7, -7)
		}
		for j := range spans {
			if j > i && !slices.Equal(spans[j], whole[j]) {
				t.Errorf("the spans of %d share memory with those of %d", j, i)
			}
		}
	}
	if !slices.Equal(list, numbering) {
		t.Errorf("spans share memory with the numbering")
	}
	scribble(ring)
	scribble(numbering)
	heirs, _ := line.Heirs(g, []int{3})
	least, _ := line.Least(g, []int{3})
	scribble(heirs)
	scribble(least)
	if !reflect.DeepEqual(before, g) {
		t.Errorf("results share memory with the graph")
	}
}

func scribble(l []int) {
	full := l[:cap(l)]
	for i := range full {
		full[i] = -7
	}
}
