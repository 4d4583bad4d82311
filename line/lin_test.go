package line_test

import (
	"math/rand"
	"slices"
	"testing"

	"consort/api"
	"consort/line"
)

func TestLinExamples(t *testing.T) {
	for _, x := range []struct {
		g     [][]int
		class int
		want  []int
		e     api.Errno
	}{
		{exampleG(), 6, []int{6, 4, 5, 3, 0}, api.OK},
		{exampleG(), 0, []int{0}, api.OK},
		{exampleG(), 1, []int{1, 0}, api.OK},
		{exampleG(), 2, []int{2, 0}, api.OK},
		{exampleG(), 3, []int{3, 0}, api.OK},
		{nil, 2, []int{2, 0}, api.OK},
		{exampleH(), 7, []int{7, 5, 4, 3, 0}, api.OK},
		{exampleH(), 8, nil, api.ErrRule},
		{append(exampleH(), []int{8}), 9, nil, api.ErrRule},                   // its parent has none
		{append(exampleH(), []int{8}, []int{3}), 10, []int{10, 3, 0}, api.OK}, // what stands beside does not matter
		{[][]int{nil, {3}, {3, 4}}, 5, nil, api.ErrRule},                      // a parent ahead of what is below it
		{[][]int{nil, {3}, {4, 3}}, 5, []int{5, 4, 3, 0}, api.OK},
		// 3 is passed over, for it stands behind 4; then it is passed over again, behind 5.
		{[][]int{nil, {3}, {3}, {3}, {4, 5, 6}}, 7, []int{7, 4, 5, 6, 3, 0}, api.OK},
		{[][]int{nil, nil, nil, {3, 5}, {4, 5}, {6, 7}}, 8, []int{8, 6, 3, 7, 4, 5, 0}, api.OK},
		{ring3(), 9, nil, api.ErrRule},
		{ring4(), 10, nil, api.ErrRule},
		{ring4(), 9, []int{9, 6, 3, 0}, api.OK},
	} {
		l, e := line.Lin(x.g, x.class)
		wantList(t, "the linear order", l, e, x.want, x.e)
	}
	last := api.LineClasses + 2
	l, e := line.Lin(largest(), last)
	order := count(last + 1)[3:]
	slices.Reverse(order)
	wantList(t, "the longest linear order", l, e, append(order, 0), api.OK)
}

func TestLin(t *testing.T) {
	orders, none := 0, 0
	for g := range someGraphs() {
		o := tell(g)
		for _, class := range o.classes() {
			wantErr := api.OK
			if o.lin[class] == nil {
				wantErr = api.ErrRule
				none++
			}
			l, e := line.Lin(g, class)
			wantList(t, "the linear order", l, e, o.lin[class], wantErr)
			if e == api.OK {
				orders++
				is, e := line.Agrees(g, class, l)
				want(t, "a linear order agrees", is && e == api.OK, true)
			}
		}
		if t.Failed() {
			t.Fatalf("in %v", g)
		}
	}
	if orders < 10000 || none < 3000 {
		t.Errorf("only %d orders, and %d classes with none", orders, none)
	}
}

func TestAgreesExamples(t *testing.T) {
	for _, x := range []struct {
		g     [][]int
		class int
		l     []int
		want  bool
		e     api.Errno
	}{
		{exampleG(), 6, []int{6, 5, 4, 3, 0}, false, api.OK},
		{exampleG(), 6, []int{6, 4, 5, 3, 0}, true, api.OK},
		{exampleG(), 6, []int{4, 6, 5, 3, 0}, false, api.OK},
		{exampleG(), 6, []int{6, 4, 5, 0, 3}, false, api.OK},
		{exampleG(), 6, []int{6, 4, 5, 3}, false, api.OK},
		{exampleG(), 6, []int{4, 5, 3, 0}, false, api.OK},
		{exampleG(), 6, []int{6, 4, 5, 0}, false, api.OK},
		{exampleG(), 6, []int{6, 4, 5, 3, 3, 0}, false, api.OK},
		{exampleG(), 6, []int{6, 4, 5, 3, 0, 0}, false, api.OK},
		{exampleG(), 6, []int{6, 0, 4, 5, 3, 0}, false, api.OK},
		{exampleG(), 6, []int{6, 4, 5, 3, 1, 0}, false, api.OK},
		{exampleG(), 6, []int{6, 4, 5, 3, 99, 0}, false, api.OK},
		{exampleG(), 6, []int{6, 4, 5, 3, -1, 0}, false, api.OK},
		{exampleG(), 6, nil, false, api.OK},
		{exampleG(), 0, []int{0}, true, api.OK},
		{exampleG(), 0, nil, false, api.OK},
		{exampleG(), 0, []int{0, 0}, false, api.OK},
		{exampleG(), 1, []int{1, 0}, true, api.OK},
		{exampleG(), 2, []int{2, 0}, true, api.OK},
		{exampleG(), 2, []int{1, 0}, false, api.OK},
		{exampleG(), 2, []int{2}, false, api.OK},
		{exampleG(), 3, []int{3, 0}, true, api.OK},
		// More lists than the linear order can agree.
		{[][]int{nil, nil, nil, {3, 5}, {4, 5}, {6, 7}}, 8, []int{8, 6, 3, 7, 4, 5, 0}, true, api.OK},
		{[][]int{nil, nil, nil, {3, 5}, {4, 5}, {6, 7}}, 8, []int{8, 6, 7, 4, 3, 5, 0}, true, api.OK},
		{[][]int{nil, nil, nil, {3, 5}, {4, 5}, {6, 7}}, 8, []int{8, 7, 6, 3, 4, 5, 0}, false, api.OK},
		{exampleH(), 8, []int{8, 6, 7, 4, 5, 3, 0}, false, api.OK},
		{append(exampleH(), []int{8}), 9, []int{9, 8, 0}, false, api.ErrRule},
		{append(exampleH(), []int{8}), 9, nil, false, api.ErrRule},
	} {
		if is, e := line.Agrees(x.g, x.class, x.l); is != x.want || e != x.e {
			t.Errorf("%v agrees with %d in %v: %v (%d)", x.l, x.class, x.g, is, e)
		}
	}
}

// spoilt are lists that are nearly a list.
func spoilt(r *rand.Rand, l []int, classes int) [][]int {
	swapped, other := slices.Clone(l), slices.Clone(l)
	i, j := r.Intn(len(l)), r.Intn(len(l))
	swapped[i], swapped[j] = swapped[j], swapped[i]
	other[i] = r.Intn(classes+2) - 1
	return [][]int{
		l, swapped, other,
		slices.Delete(slices.Clone(l), i, i+1),
		slices.Insert(slices.Clone(l), i, l[j]),
		slices.Insert(slices.Clone(l), i, r.Intn(classes+2)-1),
	}
}

func TestAgrees(t *testing.T) {
	r := rand.New(rand.NewSource(4))
	agree := 0
	for g := range someGraphs() {
		o := tell(g)
		for _, class := range o.classes() {
			_, ok := o.lists(class)
			l := o.lin[class]
			if l == nil {
				l = o.above(class)
				slices.Reverse(l)
			}
			for _, l := range spoilt(r, l, len(o.parents)) {
				wantErr := api.OK
				if !ok {
					wantErr = api.ErrRule
				}
				is, e := line.Agrees(g, class, l)
				if is != (ok && o.agrees(class, l)) || e != wantErr {
					t.Fatalf("%v agrees with %d in %v: %v (%d)", l, class, g, is, e)
				}
				if is && !slices.Equal(l, o.lin[class]) {
					agree++
				}
			}
		}
	}
	if agree < 30 {
		t.Errorf("only %d lists that are not the linear order agree", agree)
	}
}

// TestAgreesOfAllLists goes through all orders of what is above a class: some
// agree just if it has a linear order, and just if it has no ring.
func TestAgreesOfAllLists(t *testing.T) {
	for g := range allGraphs(4) {
		o := tell(g)
		for _, class := range o.classes() {
			if _, ok := o.lists(class); !ok {
				continue
			}
			agree := 0
			above := o.above(class)
			for l := range selections(above, len(above)) {
				is, e := line.Agrees(g, class, l)
				if is != o.agrees(class, l) || e != api.OK {
					t.Fatalf("%v agrees with %d in %v: %v (%d)", l, class, g, is, e)
				}
				if is {
					agree++
				}
			}
			_, e := line.Lin(g, class)
			if (agree > 0) != (e == api.OK) {
				t.Fatalf("%d lists agree with %d in %v, but its order: %d", agree, class, g, e)
			}
		}
	}
}

// within reports whether all of a list stands in another one, in its order.
func within(l, whole []int) bool {
	for _, c := range whole {
		if len(l) > 0 && l[0] == c {
			l = l[1:]
		}
	}
	return len(l) == 0
}

func TestNoOrderIsTurnedRound(t *testing.T) {
	for g := range someGraphs() {
		for class := range len(g) + 3 {
			l, e := line.Lin(g, class)
			if e != api.OK {
				continue
			}
			above, _ := line.Above(g, class)
			for _, c := range above {
				inner, e := line.Lin(g, c)
				if e != api.OK || !within(inner, l) {
					t.Fatalf("in %v the order of %d, %v, stands not in %v (%d)", g, c, inner, l, e)
				}
				if c >= 3 && !within(g[c-3], l) {
					t.Fatalf("in %v the parents of %d stand not in %v", g, c, l)
				}
			}
		}
	}
}

func TestClassesMore(t *testing.T) {
	r := rand.New(rand.NewSource(5))
	for range 3000 {
		more := anyGraph(r, 1+r.Intn(api.LineClasses))
		g := more[:len(more)-1]
		n := len(g) + 3
		for a := range n {
			before, e1 := line.Lin(g, a)
			after, e2 := line.Lin(more, a)
			wantList(t, "the linear order with a class more", after, e2, before, e1)
			b, c := r.Intn(n), r.Intn(n)
			is, _ := line.Below(g, a, b)
			now, _ := line.Below(more, a, b)
			want(t, "below with a class more", now, is)
			before, e1 = line.Least(g, []int{a, b, c})
			after, e2 = line.Least(more, []int{a, b, c})
			wantList(t, "least classes with one more", after, e2, before, e1)
		}
		if t.Failed() {
			t.Fatalf("in %v", more)
		}
	}
}

// renumbered returns a graph with other numbers, and the number of each class.
func renumbered(r *rand.Rand, g [][]int) ([][]int, []int) {
	now := []int{0, 1, 2}
	now = append(now, make([]int, len(g))...)
	var other [][]int
	left := r.Perm(len(g))
	for len(left) > 0 {
		next := slices.IndexFunc(left, func(i int) bool {
			return !slices.ContainsFunc(g[i], func(p int) bool { return now[p] == 0 })
		})
		i := left[next]
		left = slices.Delete(left, next, next+1)
		now[i+3] = len(other) + 3
		other = append(other, rename(g[i], now))
	}
	return other, now
}

func rename(l, now []int) []int {
	var out []int
	for _, c := range l {
		out = append(out, now[c])
	}
	return out
}

func TestOtherNumbers(t *testing.T) {
	r := rand.New(rand.NewSource(6))
	moved := 0
	for range 3000 {
		g := anyGraph(r, r.Intn(api.LineClasses+1))
		other, now := renumbered(r, g)
		for class := range len(g) + 3 {
			if now[class] != class {
				moved++
			}
			l, e1 := line.Lin(g, class)
			again, e2 := line.Lin(other, now[class])
			wantList(t, "the linear order by other numbers", again, e2, rename(l, now), e1)
		}
		if t.Failed() {
			t.Fatalf("%v and %v", g, other)
		}
	}
	if moved < 1000 {
		t.Errorf("only %d classes have other numbers", moved)
	}
}
