package bind_test

import (
	"math"
	"math/rand"
	"slices"
	"testing"

	"consort/api"
	"consort/bind"
	"consort/fact"
)

// wantFormed asks all functions whether a program is formed.
func wantFormed(t *testing.T, what any, p api.BindProg, formed bool) {
	t.Helper()
	e := api.ErrArg
	if formed {
		e = api.OK
	}
	form, e1 := bind.Form(p)
	inOrder, e2 := bind.InOrder(p)
	sizes, e3 := bind.Sizes(p)
	world, e4 := bind.World(p)
	if e1 == api.ErrLong {
		e1 = api.OK
	}
	for i, got := range []api.Errno{bind.Check(p), e1, e2, e3, e4} {
		if got != e {
			t.Errorf("%v: error %d of the function %d, not %d", what, got, i, e)
		}
	}
	if !formed {
		has, e5 := bind.Has(p, 3)
		begin, e6 := bind.Begin(p, 3)
		wantText(t, "what a program that is not formed has", tuple(form, inOrder, sizes, world, has, e5, begin, e6),
			tuple(api.FormProg{}, false, []int{}, api.FactWorld{}, []int{}, e, []int{}, e))
	}
}

func TestCheckClasses(t *testing.T) {
	class := func(i int, by func(c *api.BindClass)) api.BindProg {
		return changed(func(p *api.BindProg) { by(&p.Classes[i]) })
	}
	parents := func(i int, l ...int) api.BindProg {
		return class(i, func(c *api.BindClass) { c.Parents = l })
	}
	inits := func(i int, l ...api.BindInit) api.BindProg {
		return class(i, func(c *api.BindClass) { c.Inits = l })
	}
	slots := func(count int, lists ...[]int) api.BindProg {
		return changed(func(p *api.BindProg) {
			p.Slots = count
			for i := range p.Classes {
				p.Classes[i].Slots, p.Classes[i].Inits = lists[i], nil
			}
		})
	}
	count := func(count int) api.BindProg {
		p := alone(node(api.FormNone, 0))
		p.Classes = make([]api.BindClass, count)
		return p
	}
	init := func(slot, n int) api.BindInit { return api.BindInit{Slot: slot, N: n} }
	for i, x := range []struct {
		p      api.BindProg
		formed bool
	}{
		{exampleQ(), true}, {count(0), true}, {count(10), true}, {count(11), false},
		{parents(2, 3, 4), false}, {parents(2, 3), true}, {parents(2, 4), true}, {parents(1), true},
		{parents(1, 2), false}, {parents(1, 0), false}, {parents(1, 4), false}, {parents(1, 5), false}, {parents(0, 3), false},
		{parents(1, 3, 3), false}, {parents(1, -3), false}, {parents(2, 4, 3, 3), false}, {parents(2, math.MinInt), false},
		{slots(2, []int{0}, []int{1}, nil), true}, {slots(2, nil, []int{0}, []int{1}), true}, {slots(2, []int{0, 1}, nil, nil), true},
		{slots(2, []int{1}, []int{0}, nil), false}, {slots(2, []int{1, 0}, nil, nil), false}, {slots(2, []int{0}, nil, nil), false},
		{slots(2, []int{0}, []int{1}, []int{2}), false}, {slots(3, []int{0}, []int{1}, []int{1}), false}, {slots(3, []int{0}, []int{2}, nil), false},
		{slots(2, []int{-1}, []int{1}, []int{0}), false}, {slots(math.MaxInt, []int{0}, []int{1}, nil), false}, {slots(-1, nil, nil, nil), false},
		{slots(12, []int{0, 1, 2, 3}, []int{4, 5, 6, 7}, []int{8, 9, 10, 11}), true},
		{slots(5, []int{0, 1, 2, 3, 4}, nil, nil), false}, {slots(5, nil, nil, []int{0, 1, 2, 3, 4}), false},
		{inits(2), true}, {inits(2, init(0, 1), init(1, -5)), true}, {inits(2, init(1, 1), init(0, 1)), true}, {inits(2, init(0, 1), init(0, 1)), false},
		{inits(2, init(0, 1), init(1, 1), init(0, 2)), false}, {inits(1, init(1, 0)), true}, {inits(1, init(0, 0)), true}, {inits(0, init(1, 0)), false},
		{inits(2, init(2, 1)), false}, {inits(2, init(-1, 1)), false}, {inits(2, init(0, api.FormMost)), true}, {inits(2, init(0, -api.FormMost)), true},
		{inits(2, init(0, api.FormMost+1)), false}, {inits(2, init(0, -api.FormMost-1)), false}, {inits(2, init(1, 1), init(0, math.MinInt)), false},
		// The class 5 does not have the slot 0 any more, for which it has an Init.
		{changed(func(p *api.BindProg) { p.Classes[1].Parents, p.Classes[2].Parents = nil, []int{4} }), false},
		{changed(func(p *api.BindProg) {
			p.Classes[1].Parents, p.Classes[2].Parents = nil, []int{4}
			p.Classes[2].Inits[0].Slot = 1
		}), true},
	} {
		wantFormed(t, i, x.p, x.formed)
	}
	for i, g := range [][][]int{ringed(), {nil, nil, {3, 4}, {4, 3}, {5, 6}}, {nil, nil, {3, 4}, {4, 3}, {5, 6}, nil}} {
		p := alone(node(api.FormNone, 0))
		p.Classes = classesOf(g[:4])
		wantFormed(t, i, p, true)
		p.Classes = classesOf(g)
		wantFormed(t, i, p, false)
	}
}

func TestCheckMethods(t *testing.T) {
	method := func(i int, by func(m *api.BindMethod)) api.BindProg {
		return changed(func(p *api.BindProg) { by(&p.Methods[i]) })
	}
	aFact := func(f api.Fact) api.BindProg { return method(0, func(m *api.BindMethod) { m.Fact = f }) }
	gens := func(l ...int) api.BindProg { return changed(func(p *api.BindProg) { p.Gens = l }) }
	kind := func(k api.FormKind) api.BindProg { return method(0, func(m *api.BindMethod) { m.Kind = k }) }
	of := func(gen int) api.BindProg { return method(0, func(m *api.BindMethod) { m.Gen = gen }) }
	count := func(count int) api.BindProg {
		p := alone(node(api.FormNone, 0))
		p.Gens = []int{1}
		for i := range count {
			p.Methods = append(p.Methods, api.BindMethod{Kind: api.FormPrimary, Fact: yes(), Node: i + 1})
			p.Nodes = append(p.Nodes, node(api.FormNone, 0))
		}
		return p
	}
	for i, x := range []struct {
		p      api.BindProg
		formed bool
	}{
		{gens(1, 1), true}, {gens(1, 3), true}, {gens(1, 1, 2, 3, 1, 2, 3, 1), true}, {gens(1, 1, 1, 1, 1, 1, 1, 1, 1), false},
		{gens(), false}, {gens(2), false}, {gens(0), false}, {gens(1, 0), false}, {gens(1, 4), false}, {gens(1, -1), false}, {gens(1, math.MaxInt), false},
		{kind(1), true}, {kind(2), true}, {kind(3), true}, {kind(4), true}, {kind(0), false}, {kind(5), false}, {kind(-1), false},
		{of(-1), false}, {of(1), false}, {of(math.MaxInt), false},
		{changed(func(p *api.BindProg) { p.Gens, p.Methods[0].Gen = []int{1, 2}, 1 }), true},
		{count(0), true}, {count(16), true}, {count(17), false},
		{aFact(yes()), true}, {aFact(is(0, 5, 0, 1)), true}, {aFact(is(0, 6)), false}, {aFact(is(0, 3, 2)), false}, {aFact(is(0, 3, 0, 0, 0)), false},
		{aFact(is(0, 0)), true}, {aFact(is(1, 0)), false}, {aFact(is(-1, 0)), false}, {aFact(not(is(1, 0))), false}, {aFact(and(yes(), less(1, 0))), false}, {aFact(and(less(1, 0), yes())), false},
		{aFact(api.Fact{}), false}, {aFact(api.Fact{Op: api.FactTrue, Arg: 1}), false}, {aFact(api.Fact{Op: api.FactNot}), false},
		{aFact(longFact(24)), true}, {aFact(not(longFact(24))), false}, {aFact(less(0, api.FormMost+1)), false},
	} {
		wantFormed(t, i, x.p, x.formed)
	}
	for arg := range 4 {
		for args := 1; args <= 3; args++ {
			p := withBody(api.FormPrimary, node(api.FormNone, 0))
			p.Gens, p.Methods[0].Fact = []int{args}, and(is(0, 0), not(is(arg, 2)))
			wantFormed(t, tuple("argument", arg, "of", args), p, arg < args)
		}
	}
}

// TestCheckKinds has, for each kind, a node with each number of Kids, and with
// many numbers, in the body of a method of each kind, and in Main.
func TestCheckKinds(t *testing.T) {
	for op := api.FormOp(-1); op <= api.FormNext+1; op++ {
		for kids := range 5 {
			for _, n := range []int{math.MinInt, -api.FormMost - 1, -api.FormMost, -1, 0, 1, 2, 3, 4, 5, 6, api.FormMost, api.FormMost + 1, math.MaxInt} {
				p := changed(func(p *api.BindProg) {
					p.Gens = []int{1, 2, 3}
					list := []api.BindNode{node(op, n)}
					for kid := range kids {
						list[0].Kids = append(list[0].Kids, 1+kid)
						list = append(list, node(api.FormNone, 0))
					}
					first, main := len(list), len(list)+1
					p.Nodes = append(list, node(api.FormNone, 0), node(api.FormNone, 0))
					p.Methods = []api.BindMethod{{Kind: api.FormPrimary, Gen: 1, Fact: yes(), Node: 0}, {Kind: api.FormBefore, Fact: yes(), Node: first}}
					p.Main = main
				})
				wantFormed(t, tuple("kind", op, "kids", kids, "number", n), p, toldFormed(p))
				for kind := api.FormPrimary; kind <= api.FormAround; kind++ {
					p.Methods[0].Kind = kind
					want(t, "the kind of a method", bind.Check(p) == api.OK, toldFormed(p))
				}
				p.Main, p.Methods[0].Node = 0, p.Main
				want(t, "a node of Main", bind.Check(p) == api.OK, toldFormed(p))
			}
		}
	}
}

func TestCheckNext(t *testing.T) {
	next := node(api.FormNext, 0)
	for kind := api.FormPrimary; kind <= api.FormAround; kind++ {
		is := kind == api.FormPrimary || kind == api.FormAround
		wantFormed(t, kind, withBody(kind, next), is)
		wantFormed(t, kind, withBody(kind, node(api.FormSeq, 0, 1, 3), node(api.FormOut, 0, 2), next, node(api.FormInt, 0)), is)
		p := withBody(kind, next)
		p.Nodes[1] = next
		wantFormed(t, kind, p, false)
	}
	wantFormed(t, "in Main", alone(next), false)
	wantFormed(t, "below Main", alone(node(api.FormOut, 0, 1), next), false)
}

func TestCheckPlaces(t *testing.T) {
	at := func(n int) api.BindNode { return node(api.FormName, n) }
	for i, x := range []struct {
		least int // the number of places of the environment in which the last FormName stands
		nodes func(n int) []api.BindNode
	}{
		{2, func(n int) []api.BindNode { return []api.BindNode{at(n)} }},
		{2, func(n int) []api.BindNode { return []api.BindNode{node(api.FormLet, 0, 1, 2), at(n), at(2)} }},
		{3, func(n int) []api.BindNode { return []api.BindNode{node(api.FormLet, 0, 1, 2), at(0), at(n)} }},
		{3, func(n int) []api.BindNode { return []api.BindNode{node(api.FormLet, 0, 2, 1), at(n), at(0)} }},
		{2, func(n int) []api.BindNode { return []api.BindNode{node(api.FormAdd, 0, 1, 2), at(1), at(n)} }},
		{3, func(n int) []api.BindNode {
			return []api.BindNode{node(api.FormLet, 0, 1, 2), at(0), node(api.FormLet, 0, 3, 4), at(n), at(3)}
		}},
		{4, func(n int) []api.BindNode {
			return []api.BindNode{node(api.FormLet, 0, 1, 2), at(0), node(api.FormLet, 0, 3, 4), at(0), node(api.FormOut, 0, 5), at(n)}
		}},
		{2, func(n int) []api.BindNode {
			return []api.BindNode{node(api.FormLet, 0, 1, 4), node(api.FormLet, 0, 2, 3), at(n), at(2), at(2)}
		}},
		{3, func(n int) []api.BindNode {
			return []api.BindNode{node(api.FormLet, 0, 1, 4), node(api.FormLet, 0, 2, 3), at(0), at(n), at(2)}
		}},
		{3, func(n int) []api.BindNode {
			return []api.BindNode{node(api.FormAdd, 0, 1, 4), node(api.FormLet, 0, 2, 3), at(0), at(n), at(1)}
		}},
		{2, func(n int) []api.BindNode {
			return []api.BindNode{node(api.FormAdd, 0, 1, 4), node(api.FormLet, 0, 2, 3), at(0), at(2), at(n)}
		}},
	} {
		for n := -1; n < 6; n++ {
			wantFormed(t, tuple(i, n), withBody(api.FormAfter, x.nodes(n)...), 0 <= n && n < x.least)
		}
	}
	wantFormed(t, "a name in Main", alone(at(0)), false)
	wantFormed(t, "a name that Main binds", alone(node(api.FormLet, 0, 1, 2), node(api.FormNone, 0), at(0)), true)
	wantFormed(t, "a name where it is not bound yet", alone(node(api.FormLet, 0, 2, 1), node(api.FormNone, 0), at(0)), false)
}

func TestCheckNodes(t *testing.T) {
	none := node(api.FormNone, 0)
	out := func(kid int) api.BindNode { return node(api.FormOut, 0, kid) }
	of := func(nodes []api.BindNode, main int, roots ...int) api.BindProg {
		p := api.BindProg{Gens: []int{1}, Nodes: nodes, Main: main}
		for _, root := range roots {
			p.Methods = append(p.Methods, api.BindMethod{Kind: api.FormAround, Fact: yes(), Node: root})
		}
		return p
	}
	list := func(l ...api.BindNode) []api.BindNode { return l }
	two := func(a, b int) api.BindNode { return node(api.FormSeq, 0, a, b) }
	for i, x := range []struct {
		p      api.BindProg
		formed bool
	}{
		{of(nil, 0), false}, {of(list(none), 0), true}, {of(list(none), 1), false}, {of(list(none), -1), false}, {of(list(none), math.MaxInt), false},
		{of(list(none, none), 0), false}, {of(list(none, none), 1), false}, {of(list(none, none), 1, 0), true}, {of(list(none, none), 0, 1), true},
		{of(list(none), 0, 0), false}, {of(list(none, none), 0, 1, 1), false}, {of(list(none, none), 0, 2), false}, {of(list(none, none), 0, -1), false},
		{of(list(out(1), none), 0), true}, {of(list(none, out(0)), 1), true}, {of(list(out(2), none), 0), false}, {of(list(out(-1), none), 0), false}, {of(list(out(math.MinInt), none), 0), false},
		{of(list(two(1, 2), none, none), 0), true}, {of(list(two(2, 1), none, none), 0), true}, {of(list(two(1, 1), none), 0), false}, {of(list(two(1, 1), none, none), 0), false},
		{of(list(two(1, 2), out(3), out(3), none), 0), false}, {of(list(two(1, 2), out(2), none), 0), false}, {of(list(out(1), none, out(1)), 0, 2), false}, {of(list(out(1), none), 0, 1), false},
		{of(list(out(0)), 0), false}, {of(list(out(1), out(0)), 0), false}, {of(list(out(1), out(1)), 0), false},
		// Rings that nothing leads to: each of their nodes is a Kid just once.
		{of(list(none, out(1)), 0), false}, {of(list(none, out(2), out(1)), 0), false}, {of(list(none, node(api.FormLet, 0, 2, 1), none), 0), false},
		{of(list(two(1, 2), none, out(3), out(2)), 0), false},
	} {
		wantFormed(t, i, x.p, x.formed)
	}
}

func TestCheckLimits(t *testing.T) {
	wantFormed(t, "the limits", limit(), true)
	want(t, "the nodes of it", len(limit().Nodes), api.FormNodes)
	for i, by := range []func(p *api.BindProg){
		func(p *api.BindProg) { p.Classes = append(p.Classes, api.BindClass{}) },
		func(p *api.BindProg) { p.Gens = append(p.Gens, 1) },
		func(p *api.BindProg) { p.Classes[9].Slots, p.Slots = append(p.Classes[9].Slots, 40), 41 },
		func(p *api.BindProg) { p.Classes[9].Parents = append(p.Classes[9].Parents, 3) },
		func(p *api.BindProg) { p.Classes[9].Inits = append(p.Classes[9].Inits, api.BindInit{Slot: 40}) },
		func(p *api.BindProg) {
			p.Nodes[119] = node(api.FormOut, 0, 120)
			p.Nodes = append(p.Nodes, node(api.FormNone, 0))
		},
		func(p *api.BindProg) { p.Methods[15].Fact = not(p.Methods[15].Fact) },
	} {
		p := clone(limit())
		by(&p)
		wantFormed(t, i, p, false)
	}
	for _, length := range []int{1, 11, 12, 13, 14} {
		wantFormed(t, tuple("depth of Main", length), alone(chain(length, 0)...), length <= 12)
		wantFormed(t, tuple("depth of a Node", length), withBody(api.FormAfter, chain(length, 0)...), length <= 12)
	}
	wantFormed(t, "depth of the last Kid", alone(append([]api.BindNode{node(api.FormSeq, 0, 1, 2), node(api.FormNone, 0)}, chain(12, 2)...)...), false)
	wantFormed(t, "depth of the last Kid", alone(append([]api.BindNode{node(api.FormSeq, 0, 1, 2), node(api.FormNone, 0)}, chain(11, 2)...)...), true)
	for _, count := range []int{119, 121, 123} {
		wantFormed(t, tuple("nodes", count), alone(bush(count, 0)...), count <= 120)
	}
}

// TestCheckMany holds programs that were changed at a place or two against
// the definitions.
func TestCheckMany(t *testing.T) {
	r := rand.New(rand.NewSource(5))
	met := map[bool]int{}
	for range 6000 {
		p := bound(r)
		for range 1 + r.Intn(2) {
			p = broken(r, p)
		}
		formed := toldFormed(p)
		met[formed]++
		wantFormed(t, p, p, formed)
		if t.Failed() {
			return
		}
	}
	if met[true] < 500 || met[false] < 3000 {
		t.Errorf("too few of a kind: %v", met)
	}
}

func TestSizes(t *testing.T) {
	for i, x := range []struct {
		p    api.BindProg
		want []int
	}{
		{exampleQ(), []int{1, 1, 1, 1, 1, 2, 0, 0}},
		{alone(node(api.FormNone, 0)), []int{0}},
		{withBody(api.FormBefore, node(api.FormLet, 0, 2, 1), node(api.FormLet, 0, 3, 4), node(api.FormLet, 0, 5, 6),
			node(api.FormName, 2), node(api.FormName, 3), node(api.FormName, 1), node(api.FormName, 2)), []int{2, 3, 2, 3, 4, 2, 3, 0}},
	} {
		got, e := bind.Sizes(x.p)
		wantText(t, "sizes", tuple(i, got, e), tuple(i, x.want, api.OK))
	}
	r := rand.New(rand.NewSource(6))
	for range 1000 {
		p := bound(r)
		got, e := bind.Sizes(p)
		var told []int
		for at := range p.Nodes {
			up, _ := lineUp(p, at)
			told = append(told, toldSize(p, up))
		}
		wantText(t, "sizes", tuple(got, e), tuple(told, api.OK))
	}
}

// TestWorldIsFormed: a formed program never has more classes or slots than layer 4 takes.
func TestWorldIsFormed(t *testing.T) {
	w, e := bind.World(limit())
	want(t, "the world at the limits", e, api.OK)
	want(t, "the world at the limits", fact.Check(w), api.OK)
	want(t, "its classes", len(w.Parents), api.FormClasses)
	want(t, "its slots", len(w.Owner), api.FactSlots)
	want(t, "owners increase", slices.IsSorted(w.Owner), true)
}
