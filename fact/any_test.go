package fact_test

import (
	"math"
	"math/rand"
	"reflect"
	"slices"
	"testing"

	"consort/api"
	"consort/fact"
)

// given are arguments of all functions.
type given struct {
	w     api.FactWorld
	f, g  api.Fact
	objs  []api.MeanThing
	args  []api.MeanVal
	a, b  int
	path  []int
	proof [][]int
}

// results are what all functions return for some arguments.
func results(x given) []any {
	var all []any
	add := func(values ...any) { all = append(all, values...) }
	add(fact.Check(x.w), fact.Formed(x.w, x.f))
	below, e1 := fact.Below(x.w, x.a, x.b)
	v, stands, e2 := fact.At(x.w, x.objs, x.args, x.a, x.path)
	holds, e3 := fact.Holds(x.w, x.f, x.objs, x.args)
	add(below, e1, v, stands, e2, holds, e3)
	cases, e4 := fact.Cases(x.w, x.f)
	can, e5 := fact.Can(x.w, x.f)
	implies, e6 := fact.Implies(x.w, x.f, x.g)
	add(cases, e4, can, e5, implies, e6)
	bigger, objs, args, e7 := fact.Model(x.w, x.f)
	proof, e8 := fact.Proof(x.w, x.f, x.g)
	proves, e9 := fact.Proves(x.w, x.f, x.g, x.proof)
	short, e10 := fact.Short(x.w, x.f)
	add(bigger, objs, args, e7, proof, e8, proves, e9, short, e10)
	return all
}

// endless are facts without an end: what contains itself, and what shares its
// parts so often that nobody can go through all of them.
func endless() []api.Fact {
	ring := make([]api.Fact, 1)
	ring[0] = api.Fact{Op: api.FactNot, Kids: ring}
	pair := make([]api.Fact, 2)
	pair[0] = api.Fact{Op: api.FactAnd, Kids: pair}
	pair[1] = pair[0]
	shared := yes()
	for range 60 {
		shared = or(shared, shared)
	}
	flat := yes()
	for range 11 {
		flat = and(flat, flat)
	}
	many := api.Fact{Op: api.FactAnd, Kids: make([]api.Fact, 1<<20)}
	path := is(0, 3, make([]int, 1<<20)...)
	return []api.Fact{ring[0], pair[0], shared, flat, many, not(many), path, and(yes(), path), nots(100000, yes())}
}

func TestEndlessArguments(t *testing.T) {
	for i, f := range endless() {
		for _, pair := range [][2]api.Fact{{f, yes()}, {yes(), f}, {f, f}} {
			x := given{w: exampleW(), f: pair[0], g: pair[1], args: []api.MeanVal{nothing()}}
			_, e1 := fact.Implies(x.w, x.f, x.g)
			_, e2 := fact.Proof(x.w, x.f, x.g)
			_, e3 := fact.Proves(x.w, x.f, x.g, nil)
			if e1 != api.ErrArg || e2 != api.ErrArg || e3 != api.ErrArg {
				t.Errorf("%d is not formed: %d %d %d", i, e1, e2, e3)
			}
			results(x)
		}
		_, e1 := fact.Holds(exampleW(), f, nil, []api.MeanVal{nothing()})
		_, e2 := fact.Short(exampleW(), f)
		if fact.Formed(exampleW(), f) != api.ErrArg || e1 != api.ErrArg || e2 != api.ErrArg {
			t.Errorf("%d is not formed: %d %d", i, e1, e2)
		}
	}
	long := slices.Repeat([]int{3}, 1<<20)
	for _, w := range []api.FactWorld{
		{Parents: make([][]int, 1<<20)},
		{Parents: slices.Repeat([][]int{long}, 1<<20)},
		{Parents: [][]int{nil, long}},
		{Parents: [][]int{nil}, Owner: long},
	} {
		want(t, "an endless world", fact.Check(w), api.ErrArg)
		for _, e := range errorsOf(results(given{w: w, f: yes(), g: yes(), args: []api.MeanVal{nothing()}})) {
			want(t, "an error of an endless world", e, api.ErrArg)
		}
	}
	w := exampleW()
	slots := slices.Repeat([]api.MeanVal{nothing()}, 1<<20)
	for _, x := range []given{
		{w: w, objs: make([]api.MeanThing, 1<<20), args: slots},
		{w: w, objs: []api.MeanThing{thing(3, slots...)}, args: slots[:1]},
		{w: w, args: slots[:1], path: long},
	} {
		_, _, e := fact.At(x.w, x.objs, x.args, 0, x.path)
		want(t, "endless objects, arguments or paths", e, api.ErrArg)
	}
	for _, proof := range [][][]int{make([][]int, 1<<20), {long}, slices.Repeat([][]int{long}, 1<<20)} {
		_, e := fact.Proves(w, is(0, 4), is(0, 3), proof)
		want(t, "an endless proof", e, api.ErrArg)
	}
}

func errorsOf(all []any) []api.Errno {
	var l []api.Errno
	for _, x := range all {
		if e, is := x.(api.Errno); is {
			l = append(l, e)
		}
	}
	return l
}

// odd is a number that a class, a slot or an argument can be, or nearly.
func odd(r *rand.Rand) int {
	if r.Intn(12) > 0 {
		return r.Intn(4)
	}
	return []int{math.MinInt, math.MaxInt, -1, 7, 63, 64, -64, 1 << 32, api.FormMost, -api.FormMost - 1}[r.Intn(10)]
}

func oddList(r *rand.Rand, most int) []int {
	l := make([]int, r.Intn(most))
	for i := range l {
		l[i] = odd(r)
	}
	return l
}

func oddFact(r *rand.Rand, depth int) api.Fact {
	f := api.Fact{Op: api.FactOp(r.Intn(8))}
	if r.Intn(20) == 0 {
		f.Op = api.FactOp(odd(r))
	}
	if f.Op >= api.FactIs && f.Op <= api.FactSame || r.Intn(20) == 0 {
		f.Arg, f.Path = odd(r), oddList(r, 4)
	}
	if f.Op == api.FactIs || r.Intn(20) == 0 {
		f.Class = odd(r)
	}
	if f.Op == api.FactLess || f.Op == api.FactSame || r.Intn(20) == 0 {
		f.N = odd(r)
	}
	kids := max(0, min(2, int(f.Op)-int(api.FactNot)+1))
	if r.Intn(20) == 0 {
		kids = r.Intn(4)
	}
	for range min(kids, kids*depth) {
		f.Kids = append(f.Kids, oddFact(r, depth-1))
	}
	return f
}

func oddVals(r *rand.Rand, most int) []api.MeanVal {
	l := make([]api.MeanVal, r.Intn(most))
	for i := range l {
		l[i] = api.MeanVal{Kind: api.MeanKind(odd(r)), N: odd(r)}
	}
	return l
}

func oddGiven(r *rand.Rand) given {
	x := given{w: anyWorld(r, r.Intn(5), r.Intn(4)), f: oddFact(r, 3), g: oddFact(r, 3), a: odd(r), b: odd(r), path: oddList(r, 4)}
	m := maker{r, x.w, 3, len(x.w.Owner)}
	if r.Intn(2) == 0 {
		x.f, x.g = m.formed(1+r.Intn(6)), m.formed(1+r.Intn(6))
	}
	x.objs, x.args = anyThings(r, x.w)
	x.proof, _ = fact.Proof(x.w, x.f, x.g)
	switch r.Intn(6) {
	case 0:
		x.w.Parents = append(x.w.Parents, oddList(r, 4))
	case 1:
		x.w.Owner = append(x.w.Owner, odd(r))
	case 2:
		x.objs = append(x.objs, api.MeanThing{Class: odd(r), Slots: oddVals(r, 4)})
	case 3:
		x.args = oddVals(r, 5)
	case 4:
		x.proof = append(x.proof, oddList(r, 4))
	}
	return x
}

// copyOf is a copy that shares nothing.
func copyOf(x given) given {
	x.w, x.f, x.g = copyWorld(x.w), copyFact(x.f), copyFact(x.g)
	x.objs, x.args, x.path = copyThings(x.objs), slices.Clone(x.args), slices.Clone(x.path)
	var proof [][]int
	for _, l := range x.proof {
		proof = append(proof, slices.Clone(l))
	}
	x.proof = proof
	return x
}

func copyFact(f api.Fact) api.Fact {
	f.Path, f.Kids = slices.Clone(f.Path), slices.Clone(f.Kids)
	for i, kid := range f.Kids {
		f.Kids[i] = copyFact(kid)
	}
	return f
}

func copyThings(l []api.MeanThing) []api.MeanThing {
	l = slices.Clone(l)
	for i := range l {
		l[i].Slots = slices.Clone(l[i].Slots)
	}
	return l
}

// TestAnyArguments asks with anything: arguments stay as they are, the results
// are those that the same arguments have again, and with an error there are none.
func TestAnyArguments(t *testing.T) {
	r := rand.New(rand.NewSource(53))
	met := map[api.Errno]int{}
	for range 8000 {
		x := oddGiven(r)
		before := copyOf(x)
		first := results(x)
		if !reflect.DeepEqual(before, copyOf(x)) {
			t.Fatalf("arguments were changed: %v", before)
		}
		if !reflect.DeepEqual(first, results(before)) {
			t.Fatalf("%v has other results", x)
		}
		wantNothingWithErrors(t, first)
		for _, e := range errorsOf(first) {
			met[e]++
		}
	}
	if met[api.OK] < 10000 || met[api.ErrArg] < 10000 || met[api.ErrNone] < 1000 {
		t.Errorf("too few of an error: %v", met)
	}
}

func wantNothingWithErrors(t *testing.T, all []any) {
	t.Helper()
	var with []any
	for _, x := range all {
		e, is := x.(api.Errno)
		if !is {
			with = append(with, x)
			continue
		}
		for _, y := range with {
			if e != api.OK && !reflect.ValueOf(y).IsZero() {
				t.Errorf("%v with the error %d", y, e)
			}
		}
		with = nil
	}
}

// scribble writes over all lists of a fact, and behind them.
func scribble(f api.Fact) {
	for _, kid := range f.Kids {
		scribble(kid)
	}
	scribbleList(f.Path)
	kids := f.Kids[:cap(f.Kids)]
	for i := range kids {
		kids[i] = api.Fact{Op: -7}
	}
}

func scribbleList(l []int) {
	l = l[:cap(l)]
	for i := range l {
		l[i] = -7
	}
}

// TestResultsShareNothing writes over results and behind them.
func TestResultsShareNothing(t *testing.T) {
	w := exampleW()
	kid := is(0, 4, make([]int, 1, 9)...)
	kids := []api.Fact{kid, kid}
	f := or(api.Fact{Op: api.FactAnd, Kids: kids}, api.Fact{Op: api.FactAnd, Kids: []api.Fact{is(1, 3, 0), not(kid)}})
	x := given{w: w, f: f, g: or(is(1, 3), kid)}
	before := copyOf(x)
	cases, _ := fact.Cases(w, f)
	wanted := texts(cases[1:])
	for i, c := range cases {
		for n := range c {
			rest := texts([][]api.Fact{c[n+1:]})
			scribble(c[n])
			want(t, "the literals behind", texts([][]api.Fact{c[n+1:]}), rest)
		}
		clear(c[:cap(c)])
		if i == 0 {
			want(t, "the cases behind the first one", texts(cases[1:]), wanted)
		}
	}
	proof, _ := fact.Proof(w, f, x.g)
	wantedProof := slices.Clone(proof[1])
	scribbleList(proof[0])
	if !slices.Equal(proof[1], wantedProof) {
		t.Errorf("lists of a proof share memory")
	}
	for _, g := range []api.Fact{f, kid, kids[1], and(f, is(2, 3, 0)), not(f)} {
		short, _ := fact.Short(w, g)
		for i, kid := range short.Kids {
			rest := texts([][]api.Fact{short.Kids[i+1:]})
			scribble(kid)
			want(t, "the other Kid", texts([][]api.Fact{short.Kids[i+1:]}), rest)
		}
		scribble(short)
	}
	bigger, objs, args, _ := fact.Model(w, and(is(0, 4), is(0, 5)))
	for i, l := range bigger.Parents {
		rest := copyWorld(api.FactWorld{Parents: bigger.Parents[i+1:]})
		scribbleList(l)
		if !reflect.DeepEqual(rest, copyWorld(api.FactWorld{Parents: bigger.Parents[i+1:]})) {
			t.Errorf("parents of a model share memory")
		}
	}
	scribbleList(bigger.Owner)
	clear(objs)
	clear(args)
	if !reflect.DeepEqual(before, copyOf(x)) {
		t.Errorf("results share memory with arguments")
	}
}
