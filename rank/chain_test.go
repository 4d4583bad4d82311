package rank_test

import (
	"fmt"
	"math/rand"
	"slices"
	"strconv"
	"strings"
	"testing"

	"consort/api"
	"consort/rank"
)

func TestChainExamples(t *testing.T) {
	p := exampleP()
	for _, x := range []struct {
		l, chain []int
		torn     bool
		e        api.Errno
	}{{list(0, 2), list(2, 0), false, api.OK}, {list(0, 1, 2), nil, true, api.OK}, {list(0, 3), nil, false, api.ErrArg}, {nil, nil, false, api.OK}} {
		l, torn, e := rank.Chain(p, x.l)
		wantText(t, fmt.Sprint("Chain of ", x.l), tuple(l, torn, e), tuple(x.chain, x.torn, x.e))
	}
}

// numbers reads a list of numbers.
func numbers(text string) []int {
	var l []int
	for _, word := range strings.Fields(text) {
		n, e := strconv.Atoi(word)
		if e != nil {
			panic(text)
		}
		l = append(l, n)
	}
	return l
}

// sequences are all sequences of a list.
func sequences(l []int) [][]int {
	if len(l) == 0 {
		return [][]int{nil}
	}
	var out [][]int
	for _, m := range l {
		for _, rest := range sequences(left(l, m)) {
			out = append(out, append([]int{m}, rest...))
		}
	}
	return out
}

// ladder has the methods 0 x < 4, 1 x < 2, 2 x is int, 3 true, 4 and 5 twins
// (x < 3), 6 x is none, 7 not true.
func ladder(kind string) api.BindProg {
	return facts(kind, "", "x < 4", "x < 2", "x is int", "true", "x < 3", "not not x < 3", "x is none", "not true")
}

func TestChain(t *testing.T) {
	for _, kind := range []string{"method", "before", "after", "around"} {
		for _, x := range []struct {
			l, chain string
			torn     bool
		}{
			{"", "", false}, {"3", "3", false}, {"7", "7", false}, {"0 1", "1 0", false}, {"0 1 2 3", "1 0 2 3", false}, {"0 2 3 4", "4 0 2 3", false}, {"1 3 7", "7 1 3", false},
			// Torn at once: by twins, or by what is for other arguments.
			{"4 5", "", true}, {"4 5 0 3", "", true}, {"1 6", "", true}, {"1 6 3", "", true}, {"2 6", "", true},
			// Torn behind others.
			{"1 4 5", "1", true}, {"1 4 5 0", "1", true}, {"1 4 5 7", "7 1", true}, {"7 2 6", "7", true}, {"7 2 6 3", "7", true},
		} {
			for _, l := range sequences(numbers(x.l)) {
				chain, torn, e := rank.Chain(ladder(kind), l)
				wantText(t, fmt.Sprint("Chain of ", kind, l), tuple(chain, torn, e), tuple(numbers(x.chain), x.torn, api.OK))
			}
		}
	}
}

func TestBefores(t *testing.T) {
	for _, kind := range []string{"method", "before", "after", "around"} {
		for _, x := range []struct{ l, order string }{
			{"", ""}, {"5", "5"},
			// None of them is ahead of another one.
			{"1 6", "1 6"}, {"4 5", "4 5"}, {"2 6", "2 6"},
			// All of them are ahead of each other.
			{"0 1", "1 0"}, {"0 1 2 3", "1 0 2 3"}, {"0 2 3 4 7", "7 4 0 2 3"},
			// Some of them are.
			{"0 4 5", "4 5 0"}, {"1 4 5", "1 4 5"}, {"0 3 6", "0 6 3"}, {"3 4 5 6", "4 5 6 3"}, {"0 1 4 5", "1 4 5 0"}, {"1 2 6 7", "7 1 2 6"}, {"0 4 6", "4 0 6"},
		} {
			for _, l := range sequences(numbers(x.l)) {
				order, e := rank.Befores(ladder(kind), l)
				wantText(t, fmt.Sprint("Befores of ", kind, l), tuple(order, e), tuple(numbers(x.order), api.OK))
			}
		}
	}
	// The least number comes first among those that nobody is ahead of, also
	// one that was held up before.
	p := facts("before", diamond, "x is a", "y is a", "x is b", "z is a", "x is d")
	for _, x := range []struct{ l, order string }{{"0 1 2 3 4", "1 3 4 2 0"}, {"0 1 2", "1 2 0"}, {"0 1 4", "1 4 0"}, {"2 3 4", "3 4 2"}, {"0 2 3", "2 0 3"}} {
		for _, l := range sequences(numbers(x.l)) {
			order, e := rank.Befores(p, l)
			wantText(t, fmt.Sprint("Befores of ", l), tuple(order, e), tuple(numbers(x.order), api.OK))
		}
	}
}

func TestListErrors(t *testing.T) {
	p := several()
	for _, x := range []struct {
		l           []int
		chain, plan api.Errno
	}{
		{list(0, 3), api.OK, api.OK}, {list(2, 9), api.OK, api.ErrNone}, {list(7), api.OK, api.ErrNone}, {nil, api.OK, api.ErrNone},
		{list(0, 2), api.ErrArg, api.OK}, {list(2, 0), api.ErrArg, api.OK}, {list(3, 0, 9), api.ErrArg, api.OK}, {list(4, 7), api.ErrArg, api.OK},
		{list(0, 1), api.ErrArg, api.ErrArg}, {list(0, 3, 4), api.ErrArg, api.ErrArg}, {list(2, 7), api.ErrArg, api.ErrArg}, {list(7, 2), api.ErrArg, api.ErrArg},
		{list(0, 0), api.ErrArg, api.ErrArg}, {list(0, 3, 0), api.ErrArg, api.ErrArg}, {list(2, 2), api.ErrArg, api.ErrArg}, {list(2, 5, 9, 2), api.ErrArg, api.ErrArg},
		{list(11), api.ErrArg, api.ErrArg}, {list(0, 11), api.ErrArg, api.ErrArg}, {list(11, 11), api.ErrArg, api.ErrArg}, {list(-1), api.ErrArg, api.ErrArg}, {list(0, 3, -1), api.ErrArg, api.ErrArg}, {list(1<<62, 0), api.ErrArg, api.ErrArg}, {list(0, -1<<62), api.ErrArg, api.ErrArg},
		{slices.Repeat(list(0), 11), api.ErrArg, api.ErrArg}, {slices.Repeat(list(2, 5), 1<<19), api.ErrArg, api.ErrArg},
	} {
		what := fmt.Sprint(x.l[:min(len(x.l), 20)])
		chain, torn, e := rank.Chain(p, x.l)
		want(t, "Chain of "+what, e, x.chain)
		order, e := rank.Befores(p, x.l)
		want(t, "Befores of "+what, e, x.chain)
		plan, e := rank.Plan(p, x.l)
		want(t, "Plan of "+what, e, x.plan)
		if x.chain != api.OK {
			wantText(t, "what comes with an error", tuple(chain, torn, order), tuple(list(), false, list()))
		}
		if x.plan != api.OK {
			wantText(t, "what comes with an error", plan, api.RankPlan{})
		}
	}
}

// TestChainsOfAny holds Chain and Befores of any methods against the definitions.
func TestChainsOfAny(t *testing.T) {
	m := maker{rand.New(rand.NewSource(64))}
	whole, atOnce, behind := 0, 0, 0
	for range 3000 {
		p := m.prog()
		o := tell(p)
		for gen := range p.Gens {
			l := m.some(p, gen, api.FormKind(1+m.Intn(int(kinds))))
			if m.Intn(3) == 0 {
				l = lessTorn(o, l)
			}
			chain, torn, e := rank.Chain(p, l)
			wantedChain, wantedTorn := o.chain(l)
			wantText(t, fmt.Sprint("Chain of ", l), tuple(chain, torn, e), tuple(wantedChain, wantedTorn, api.OK))
			wantChain(t, o, l, chain)
			order, e := rank.Befores(p, l)
			wantText(t, fmt.Sprint("Befores of ", l), tuple(order, e), tuple(o.befores(l), api.OK))
			wantOrder(t, o, l, order)
			switch {
			case torn && len(chain) > 0:
				behind++
			case torn:
				atOnce++
			case len(chain) > 1:
				whole++
			}
		}
		if t.Failed() {
			t.Fatalf("of %v", p)
		}
	}
	if whole < 100 || atOnce < 100 || behind < 100 {
		t.Errorf("too few chains are whole (%d), torn at once (%d) or later (%d)", whole, atOnce, behind)
	}
}

// lessTorn is a list without those that are torn from the first one.
func lessTorn(o told, l []int) []int {
	return slices.DeleteFunc(slices.Clone(l), func(m int) bool { return m != l[0] && !o.ahead(m, l[0]) && !o.ahead(l[0], m) })
}

// wantChain wants what the promise says of the chain of some methods.
func wantChain(t *testing.T, o told, l, chain []int) {
	t.Helper()
	for i, m := range chain {
		for _, n := range l {
			if !slices.Contains(chain[:i+1], n) && !o.implies(m, n) {
				t.Errorf("%d of the chain %v does not imply %d", m, chain, n)
			}
		}
	}
	if len(chain) > 0 {
		_, torn, _ := rank.Chain(o.p, l)
		rest, restTorn, e := rank.Chain(o.p, left(l, chain[0]))
		wantText(t, "the rest of the chain", tuple(rest, restTorn, e), tuple(chain[1:], torn, api.OK))
	}
}

// wantOrder wants all methods, none of them behind one that it is ahead of.
func wantOrder(t *testing.T, o told, l, order []int) {
	t.Helper()
	wantText(t, "the methods of an order", slices.Sorted(slices.Values(order)), slices.Sorted(slices.Values(l)))
	for i, m := range order {
		for _, n := range order[i:] {
			if o.ahead(n, m) {
				t.Errorf("%d stands behind %d in %v", n, m, order)
			}
		}
	}
}
