package bind_test

import (
	"fmt"
	"math/rand"
	"reflect"
	"slices"
	"testing"

	"consort/api"
	"consort/bind"
)

// results are what all functions return for some arguments: first those that
// are about a program, then those about one by numbers.
func results(f api.FormProg, p api.BindProg, class int) [][]any {
	q, e1 := bind.Bind(f)
	g, e2 := bind.Form(p)
	in, e3 := bind.InOrder(p)
	sizes, e4 := bind.Sizes(p)
	world, e5 := bind.World(p)
	has, e6 := bind.Has(p, class)
	begin, e7 := bind.Begin(p, class)
	return [][]any{{q, e1}, {g, e2}, {in, e3}, {sizes, e4}, {world, e5}, {has, e6}, {begin, e7}, {bind.Check(p)}}
}

// TestAnyArguments asks with anything: arguments stay as they are, the results
// are those that the same arguments have again, they share no memory, and with
// an error there are none.
func TestAnyArguments(t *testing.T) {
	r := rand.New(rand.NewSource(11))
	met := map[api.Errno]int{}
	for range 2500 {
		f, p, class := anyProg(r), bound(r), r.Intn(12)-1
		for range r.Intn(3) {
			f = broken(r, f)
			p = broken(r, p)
		}
		before, given := fmt.Sprint(f, p), append(spans(f), spans(p)...)
		all := results(f, p, class)
		want(t, "the arguments", fmt.Sprint(f, p), before)
		wantText(t, "the results again", results(clone(f), clone(p), class), all)
		for _, l := range all {
			e := l[len(l)-1].(api.Errno)
			met[e]++
			for _, x := range l[:len(l)-1] {
				given = append(given, spans(x)...)
				if e != api.OK && !reflect.ValueOf(x).IsZero() {
					t.Errorf("%v with the error %d", x, e)
				}
			}
		}
		if !apart(givenOnce(given, f, p)) {
			t.Errorf("results share memory with arguments or with each other: %v", p)
		}
		if t.Failed() {
			return
		}
	}
	if met[api.OK] < 5000 || met[api.ErrArg] < 5000 || met[api.ErrRule] < 50 || met[api.ErrLong] < 20 {
		t.Errorf("too few of an error: %v", met)
	}
}

// givenOnce leaves out of some memories those of arguments that stand in them
// twice: arguments may share what results may not.
func givenOnce(l []span, f api.FormProg, p api.BindProg) []span {
	count := len(spans(f)) + len(spans(p))
	args := slices.Clone(l[:count])
	slices.SortFunc(args, func(a, b span) int { return int(a.from) - int(b.from) })
	return append(slices.Compact(args), l[count:]...)
}

// refused wants ErrArg of all functions for a program by numbers.
func refused(t *testing.T, what string, p api.BindProg) {
	t.Helper()
	for _, l := range results(api.FormProg{}, p, 3) {
		want(t, what, l[len(l)-1].(api.Errno), api.ErrArg)
	}
}

// TestEndlessArguments has lists of a million elements, and trees without an end.
func TestEndlessArguments(t *testing.T) {
	const many = 1 << 20
	long := make([]int, many)
	for i := range long {
		long[i] = i
	}
	ring := make([]api.Fact, 1)
	ring[0] = api.Fact{Op: api.FactNot, Kids: ring}
	pair := make([]api.Fact, 2)
	pair[0] = api.Fact{Op: api.FactAnd, Kids: pair}
	pair[1] = pair[0]
	for i, by := range []func(p *api.BindProg){
		func(p *api.BindProg) { p.Classes = make([]api.BindClass, many) },
		func(p *api.BindProg) { p.Classes[2].Parents = long },
		func(p *api.BindProg) { p.Classes[0].Slots, p.Slots = long, many },
		func(p *api.BindProg) { p.Classes[0].Slots, p.Slots = nil, 1<<62 },
		func(p *api.BindProg) { p.Classes[2].Inits = make([]api.BindInit, many) },
		func(p *api.BindProg) { p.Gens = slices.Repeat([]int{1}, many) },
		func(p *api.BindProg) { p.Methods = slices.Repeat(p.Methods, many/2) },
		func(p *api.BindProg) { p.Methods[1].Fact = ring[0] },
		func(p *api.BindProg) { p.Methods[0].Fact = pair[1] },
		func(p *api.BindProg) { p.Methods[0].Fact = api.Fact{Op: api.FactAnd, Kids: make([]api.Fact, many)} },
		func(p *api.BindProg) { p.Methods[0].Fact = is(0, 0, long...) },
		func(p *api.BindProg) { p.Nodes = make([]api.BindNode, many) },
		func(p *api.BindProg) { p.Nodes = chain(many, 0) },
		func(p *api.BindProg) { p.Nodes[7].Kids = long },
		func(p *api.BindProg) { p.Nodes[6].Kids = long },
		func(p *api.BindProg) { p.Nodes[6] = api.BindNode{Op: 99, Kids: long} },
		func(p *api.BindProg) { p.Nodes[1].Kids = p.Nodes[0].Kids },
		func(p *api.BindProg) { p.Gens[0] = many; p.Nodes[6].Kids = long },
	} {
		p := exampleQ()
		by(&p)
		refused(t, fmt.Sprint("endless ", i), p)
	}
	// Each node has the next one twice: nobody can go through all ways.
	var doubled []api.BindNode
	for i := range api.FormNodes - 1 {
		doubled = append(doubled, node(api.FormAdd, 0, i+1, i+1))
	}
	refused(t, "doubled nodes", alone(append(doubled, node(api.FormNone, 0))...))
}

func TestEndlessPrograms(t *testing.T) {
	ring := make([]api.FormExp, 1)
	ring[0] = api.FormExp{Op: api.FormOut, Kids: ring}
	shared := api.FormExp{Op: api.FormNone}
	for range 60 {
		shared = api.FormExp{Op: api.FormAdd, Kids: []api.FormExp{shared, shared}}
	}
	facts := make([]api.FormFact, 1)
	facts[0] = api.FormFact{Op: api.FactNot, Kids: facts}
	p := parse(sourceQ())
	p.Methods[0].Fact = facts[0]
	for i, p := range []api.FormProg{{Main: ring[0]}, {Main: shared}, p, {Main: parse("then 0").Main, Classes: make([]api.FormClass, 1<<20)}, {Main: parse("then 0").Main, Methods: make([]api.FormMethod, 1<<20)}} {
		q, e := bind.Bind(p)
		wantText(t, fmt.Sprint("endless ", i), tuple(q, e), tuple(api.BindProg{}, api.ErrArg))
	}
}

// TestResultsShareNothing: lists that stand in arguments twice, and with room
// behind them, are in results as often as they stand there.
func TestResultsShareNothing(t *testing.T) {
	p := exampleQ()
	parents := append(make([]int, 0, 9), 3)
	p.Classes[1].Parents, p.Classes[2].Parents = parents, parents
	w, _ := bind.World(p)
	if !apart(append(spans(w), spans(parents)...)) {
		t.Errorf("a world shares memory with the program")
	}
	f := parse(sourceQ())
	f.Methods[0].Fact = api.FormFact{Op: api.FactIs, Name: "x", Path: f.Classes[0].Slots, Class: "a"}
	f.Methods[1].Fact.Path = f.Classes[0].Slots
	f.Classes[2].Parents, f.Classes[2].Inits = f.Classes[1].Parents, f.Classes[0].Inits
	f.Methods[1].Body.Kids[1] = f.Methods[1].Body.Kids[0]
	q, e := bind.Bind(f)
	want(t, "no error", e, api.OK)
	g, e := bind.Form(q)
	want(t, "no error", e, api.OK)
	if !apart(spans(q)) || !apart(append(spans(g), spans(q)...)) {
		t.Errorf("lists of a result share memory")
	}
}
