package rank_test

import (
	"fmt"
	"math/rand"
	"slices"
	"testing"

	"consort/api"
	"consort/rank"
)

const kinds = api.FormAround

func TestOrderExamples(t *testing.T) {
	p := exampleP()
	for _, x := range []struct {
		m, n int
		want bool
		e    api.Errno
	}{
		{1, 0, true, api.OK}, {1, 2, false, api.OK}, {0, 0, false, api.OK}, {0, 3, false, api.ErrRule},
		{0, 1, false, api.OK}, {2, 0, true, api.OK}, {2, 1, false, api.OK}, {4, 3, true, api.OK}, {3, 4, false, api.OK}, {6, 5, true, api.OK}, {4, 6, false, api.ErrRule},
	} {
		is, e := rank.Ahead(p, x.m, x.n)
		wantText(t, fmt.Sprint("Ahead ", x.m, x.n), tuple(is, e), tuple(x.want, x.e))
	}
	for kind, wanted := range map[api.FormKind][][2]int{api.FormPrimary: {{1, 0}, {2, 0}}, api.FormBefore: {{4, 3}}, api.FormAfter: {{6, 5}}, api.FormAround: nil} {
		l, e := rank.Order(p, 0, kind)
		wantText(t, fmt.Sprint("Order of the kind ", kind), tuple(l, e), tuple(wanted, api.OK))
	}
	l, e := rank.Twins(p, 0)
	wantText(t, "Twins", tuple(l, e), tuple([][2]int(nil), api.OK))
}

// TestAheadOfFacts asks of two facts which one is ahead: 1 the first one, 2 the
// second one, 0 none, and 3 if they are twins.
func TestAheadOfFacts(t *testing.T) {
	const classes = "class a { f } class b : a { g } class c : a class d : b, c "
	for _, x := range []struct {
		first, second string
		ahead         int
	}{
		{"x is b", "x is a", 1}, {"x is a", "x is d", 2}, {"x is b", "x is c", 0}, {"x is any", "true", 3}, {"x is int", "true", 1},
		// There may be a class below b and c that is not below d.
		{"x is b and x is c", "x is d", 2}, {"x is b and x is c", "x is b", 1},
		// There may be a class below a that is neither below b nor below c.
		{"x is a", "x is b or x is c", 2}, {"x is a and not x is b and not x is c", "x is a", 1},
		// There may be a class that is below none of these.
		{"true", "x is a or x is int or x is none", 2}, {"not x is a", "x is int or x is none", 2},
		{"x < 3", "x < 4", 1}, {"x < 3", "x is int", 1}, {"x < 3 or x = 3", "x < 4", 3}, {"x = 3", "x < 3", 0}, {"x = 3", "x < 4", 1}, {"not x < 3", "x is int", 0},
		{"x.f < 7", "x is a", 1}, {"x.f is any", "x is a", 3}, {"x.g = 1", "x is b", 1}, {"x.g is a", "x.g.f is any and x is a", 3}, {"x.f.f is any", "x.f is a", 3}, {"not x.f is int", "x is a", 0},
		{"x is a and y is a", "x is a", 1}, {"x is a", "y is a", 0}, {"x is b and y is a", "x is a and y is b", 0}, {"z is a or x is a", "z is a", 2},
		{"not true", "x is d", 1}, {"not true", "x is a and x is int", 3}, {"true", "not true", 2}, {"not not x is a", "x is a", 3}, {"x is a and x is a", "x is a", 3}, {"true", "true", 3},
	} {
		for kind, word := range []string{"", "method", "before", "after", "around"} {
			if kind == 0 {
				continue
			}
			what := fmt.Sprint(word, ": ", x.first, ", ", x.second)
			p := facts(word, classes, x.first, x.second)
			first, e1 := rank.Ahead(p, 0, 1)
			second, e2 := rank.Ahead(p, 1, 0)
			wantText(t, what, tuple(first, e1, second, e2), tuple(x.ahead == 1, api.OK, x.ahead == 2, api.OK))
			twins, e := rank.Twins(p, 0)
			wantText(t, "Twins, "+what, tuple(twins, e), tuple([][][2]int{nil, nil, nil, {{0, 1}}}[x.ahead], api.OK))
			for k := api.FormPrimary; k <= kinds; k++ {
				wanted := [][][2]int{nil, {{0, 1}}, {{1, 0}}, nil}[x.ahead]
				if k != api.FormKind(kind) {
					wanted = nil
				}
				order, e := rank.Order(p, 0, k)
				wantText(t, fmt.Sprint("Order, ", what, ", kind ", k), tuple(order, e), tuple(wanted, api.OK))
			}
		}
	}
}

// several has methods of two functions and several kinds, which all are for
// the same arguments or fewer.
func several() api.BindProg {
	return prog(diamond + `
		method o(x) where x is a { 0 }
		method q(x) where x is a { 0 }
		around o(x) where x is a { 0 }
		method o(x) where x is b { 0 }
		method q(y) where not not y is a { 0 }
		around o(x) where x is a and true { 0 }
		method o(x) where x is d { 0 }
		after q(x) where x is a { 0 }
		method o(z) where z is a or z is b { 0 }
		around o(x) where true { 0 }
		method q(x) where x is a or x is a { 0 }
		then 0`)
}

func TestOrderOfSeveral(t *testing.T) {
	p := several()
	for gen, of := range [][]string{{"[[3 0] [3 8] [6 0] [6 3] [6 8]]", "[]", "[]", "[[2 9] [5 9]]"}, {"[]", "[]", "[]", "[]"}} {
		for i, wanted := range of {
			l, e := rank.Order(p, gen, api.FormPrimary+api.FormKind(i))
			wantText(t, fmt.Sprint("Order of ", gen, ", kind ", i), tuple(l, e), tuple(wanted, api.OK))
		}
	}
	for gen, wanted := range []string{"[[0 8] [2 5]]", "[[1 4] [1 10] [4 10]]"} {
		l, e := rank.Twins(p, gen)
		wantText(t, fmt.Sprint("Twins of ", gen), tuple(l, e), tuple(wanted, api.OK))
	}
	for _, x := range []struct {
		m, n int
		e    api.Errno
	}{{3, 0, api.OK}, {0, 1, api.ErrRule}, {0, 2, api.ErrRule}, {6, 9, api.ErrRule}, {2, 1, api.ErrRule}, {7, 1, api.ErrRule}, {0, 11, api.ErrArg}, {11, 0, api.ErrArg}, {-1, 0, api.ErrArg}, {2, -1, api.ErrArg}, {11, 11, api.ErrArg}} {
		is, e := rank.Ahead(p, x.m, x.n)
		wantText(t, fmt.Sprint("Ahead ", x.m, x.n), tuple(is, e), tuple(x.e == api.OK, x.e))
	}
}

func TestOrderOfNothing(t *testing.T) {
	p := with(api.BindProg{Gens: []int{2, 1}}, method(api.FormPrimary, 0, yes()))
	for kind := api.FormPrimary; kind <= kinds; kind++ {
		l, e := rank.Order(p, 1, kind)
		wantText(t, "Order without methods", tuple(l, e), tuple([][2]int(nil), api.OK))
	}
	l, e := rank.Twins(p, 1)
	wantText(t, "Twins without methods", tuple(l, e), tuple([][2]int(nil), api.OK))
	is, e := rank.Ahead(p, 0, 0)
	wantText(t, "Ahead of itself", tuple(is, e), tuple(false, api.OK))
}

func TestOrderErrors(t *testing.T) {
	p := several()
	for _, x := range []struct {
		gen  int
		kind api.FormKind
	}{{-1, 1}, {2, 1}, {0, 0}, {0, 5}, {1, -1}, {1 << 62, 1}, {0, -1 << 62}, {2, 7}} {
		l, e := rank.Order(p, x.gen, x.kind)
		wantText(t, fmt.Sprint("Order ", x), tuple(l, e), tuple([][2]int(nil), api.ErrArg))
	}
	for _, gen := range []int{-1, 2, -1 << 62, 1 << 62} {
		l, e := rank.Twins(p, gen)
		wantText(t, fmt.Sprint("Twins ", gen), tuple(l, e), tuple([][2]int(nil), api.ErrArg))
	}
	// What is not formed comes ahead of methods of different kinds.
	p.Methods[0].Fact.Class = 7
	_, e := rank.Ahead(p, 1, 2)
	want(t, "Ahead in a program that is not formed", e, api.ErrArg)
}

// TestStrictOrder holds Ahead, Order and Twins of any programs against the
// definitions; to be ahead is a strict order.
func TestStrictOrder(t *testing.T) {
	m := maker{rand.New(rand.NewSource(61))}
	aheads, twins := 0, 0
	for range 800 {
		p := m.prog()
		o := tell(p)
		is := map[[2]int]bool{}
		for i := range p.Methods {
			for j := range p.Methods {
				ahead, e := rank.Ahead(p, i, j)
				wanted := tuple(o.ahead(i, j), api.OK)
				if !o.alike(i, j) {
					wanted = tuple(false, api.ErrRule)
				}
				wantText(t, "Ahead", tuple(ahead, e), wanted)
				is[[2]int{i, j}] = ahead
			}
		}
		wantStrict(t, is)
		for gen := range p.Gens {
			l, e := rank.Twins(p, gen)
			wantText(t, "Twins", tuple(l, e), tuple(o.twins(gen), api.OK))
			twins += len(l)
			for kind := api.FormPrimary; kind <= kinds; kind++ {
				l, e := rank.Order(p, gen, kind)
				wantText(t, "Order", tuple(l, e), tuple(o.order(gen, kind), api.OK))
				aheads += len(l)
			}
		}
		if t.Failed() {
			t.Fatalf("of %v", p)
		}
	}
	if aheads < 3000 || twins < 500 {
		t.Errorf("too few are ahead (%d) or twins (%d)", aheads, twins)
	}
}

func wantStrict(t *testing.T, is map[[2]int]bool) {
	t.Helper()
	for x, ahead := range is {
		if ahead && is[[2]int{x[1], x[0]}] {
			t.Errorf("%v are ahead of each other", x)
		}
		for y, further := range is {
			if ahead && further && x[1] == y[0] && !is[[2]int{x[0], y[1]}] {
				t.Errorf("%d is ahead of %d, that of %d", x[0], x[1], y[1])
			}
		}
	}
}

// TestAheadInMore: what is ahead stays ahead when classes, slots and methods
// are added, and what is not does not become so.
func TestAheadInMore(t *testing.T) {
	m := maker{rand.New(rand.NewSource(62))}
	aheads, others := 0, 0
	for range 1500 {
		p := m.prog()
		q, numbers := m.grown(p)
		for gen := range p.Gens {
			for kind := api.FormPrimary; kind <= kinds; kind++ {
				before, e1 := rank.Order(p, gen, kind)
				for i, x := range before {
					before[i] = [2]int{numbers[x[0]], numbers[x[1]]}
				}
				after, e2 := rank.Order(q, gen, kind)
				others += len(after) - len(before)
				after = slices.DeleteFunc(after, func(x [2]int) bool {
					return !slices.Contains(numbers, x[0]) || !slices.Contains(numbers, x[1])
				})
				wantText(t, "Order in more", tuple(after, e2), tuple(before, e1))
				aheads += len(before)
			}
		}
		if t.Failed() {
			t.Fatalf("of %v and %v", p, q)
		}
	}
	if aheads < 3000 || others < 3000 {
		t.Errorf("too few are ahead (%d) or are so besides (%d)", aheads, others)
	}
}
