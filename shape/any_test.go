package shape_test

import (
	"slices"
	"strings"
	"testing"

	"consort/api"
	"consort/shape"
)

// endless are expressions without an end: what contains itself, and what
// shares its parts so often that nobody can go through all of them.
func endless() []api.FormExp {
	ring := make([]api.FormExp, 1)
	ring[0] = api.FormExp{Op: api.FormOut, Kids: ring}
	pair := make([]api.FormExp, 2)
	pair[0] = api.FormExp{Op: api.FormAdd, Kids: pair}
	pair[1] = pair[0]
	lets := make([]api.FormExp, 2)
	lets[0] = num(1)
	lets[1] = api.FormExp{Op: api.FormLet, Text: "x", Kids: lets}
	shared := num(1)
	for range 60 {
		shared = add(shared, shared)
	}
	flat := num(1)
	for range 11 {
		flat = exp(api.FormCall, "go", flat, flat, flat)
	}
	many := api.FormExp{Op: api.FormAdd, Kids: make([]api.FormExp, 1<<20)}
	return []api.FormExp{ring[0], pair[0], lets[1], shared, flat, many, out(many), chain(100000, num(1))}
}

func endlessFacts() []api.FormFact {
	ring := make([]api.FormFact, 1)
	ring[0] = api.FormFact{Op: api.FactNot, Kids: ring}
	pair := make([]api.FormFact, 2)
	pair[0] = api.FormFact{Op: api.FactAnd, Kids: pair}
	pair[1] = pair[0]
	shared := is("x", "a")
	for range 60 {
		shared = both(api.FactOr, shared, shared)
	}
	many := api.FormFact{Op: api.FactAnd, Kids: make([]api.FormFact, 1<<20)}
	path := is("x", "a", slices.Repeat([]string{"f"}, 1<<20)...)
	return []api.FormFact{ring[0], pair[0], shared, many, path, chainFact(100000)}
}

func TestEndlessArguments(t *testing.T) {
	for i, e := range endless() {
		_, e1 := shape.Depth(e)
		_, e2 := shape.Free(e)
		_, e3 := shape.Put(e, "x", num(1))
		_, e4 := shape.Put(name("x"), "x", e)
		if slices.ContainsFunc([]api.Errno{shape.CheckExp(e), e1, e2, e3, e4}, func(e api.Errno) bool { return e != api.ErrArg }) {
			t.Errorf("%d is not formed", i)
		}
		refuse(t, []api.FormProg{{Main: e}, changed(func(p *api.FormProg) { p.Methods[0].Body = e })})
	}
	for i, f := range endlessFacts() {
		if shape.CheckFact(f) != api.ErrArg {
			t.Errorf("%d is not formed alone", i)
		}
		refuse(t, []api.FormProg{changed(func(p *api.FormProg) { p.Methods[0].Fact = f })})
	}
	many := slices.Repeat([]string{"f"}, 1<<20)
	refuse(t, []api.FormProg{
		changed(func(p *api.FormProg) { p.Classes = make([]api.FormClass, 1<<20) }),
		changed(func(p *api.FormProg) { p.Methods = make([]api.FormMethod, 1<<20) }),
		changed(func(p *api.FormProg) { p.Classes[0].Parents = many }),
		changed(func(p *api.FormProg) { p.Classes[0].Slots = many }),
		changed(func(p *api.FormProg) { p.Classes[0].Inits = slices.Repeat([]api.FormInit{{Slot: "f"}}, 1<<20) }),
		changed(func(p *api.FormProg) { p.Methods[0].Params = many }),
		changed(func(p *api.FormProg) { p.Methods[0].Name = strings.Repeat("a", 1<<20) }),
	})
	if s := shape.Fresh(many); s != "a" {
		t.Errorf("Fresh: %q", s)
	}
}

// scribble writes over all lists of an expression.
func scribble(e api.FormExp) {
	for i := range e.Kids {
		scribble(e.Kids[i])
		e.Kids[i] = api.FormExp{Op: 99, Text: "scribble"}
	}
}

func scribbleFact(f api.FormFact) {
	for i := range f.Path {
		f.Path[i] = "scribble"
	}
	for i := range f.Kids {
		scribbleFact(f.Kids[i])
		f.Kids[i] = api.FormFact{Op: 99}
	}
}

func scribbleProg(p api.FormProg) {
	for _, c := range p.Classes {
		for _, l := range [][]string{c.Parents, c.Slots} {
			for i := range l {
				l[i] = "scribble"
			}
		}
		for i := range c.Inits {
			c.Inits[i] = api.FormInit{Slot: "scribble"}
		}
	}
	for _, m := range p.Methods {
		for i := range m.Params {
			m.Params[i] = "scribble"
		}
		scribbleFact(m.Fact)
		scribble(m.Body)
	}
	clear(p.Classes)
	clear(p.Methods)
	scribble(p.Main)
}

func TestPutSharesNothing(t *testing.T) {
	x := name("x")
	e := add(out(x), add(add(num(1), out(x)), exp(api.FormIf, "", x, num(2), x)))
	y := exp(api.FormCall, "go", out(name("a")), num(1))
	before, inner := expText(e), expText(y)
	got, _ := shape.Put(e, "x", y)
	if expText(e) != before || expText(y) != inner {
		t.Errorf("arguments were changed")
	}
	// Each place has a copy of its own.
	whole := expText(got.Kids[1])
	scribble(got.Kids[0])
	if expText(got.Kids[1]) != whole {
		t.Errorf("copies share memory")
	}
	last := expText(got.Kids[1].Kids[1].Kids[2])
	scribble(got.Kids[1].Kids[1].Kids[0])
	if expText(got.Kids[1].Kids[1].Kids[2]) != last {
		t.Errorf("copies share memory")
	}
	scribble(got)
	if expText(e) != before || expText(y) != inner {
		t.Errorf("the result shares memory with arguments")
	}
}

func TestCanonSharesNothing(t *testing.T) {
	p := changed(func(p *api.FormProg) {
		p.Methods[0].Fact = both(api.FactNot, is("x", "a", "f", "g"))
		p.Main = add(p.Main, let("x", out(num(1)), name("x")))
	})
	before := progText(p)
	c, e := shape.Canon(p)
	slots, _ := shape.Slots(p)
	gens, _ := shape.Gens(p)
	above, _ := shape.Above(p, "c")
	if e != api.OK || progText(p) != before {
		t.Errorf("arguments were changed (%d)", e)
	}
	scribbleProg(c)
	clear(slots)
	clear(gens)
	clear(above)
	if progText(p) != before {
		t.Errorf("a result shares memory with arguments")
	}
}

func TestCallsDependOnArgumentsAlone(t *testing.T) {
	e := let("c", num(1), add(name("b"), add(name("a"), add(name("x"), name("c")))))
	y := add(name("c"), add(name("z"), name("y")))
	first, _ := shape.Put(e, "x", y)
	free, _ := shape.Free(first)
	for range 100 {
		again, _ := shape.Put(e, "x", y)
		l, _ := shape.Free(again)
		if expText(again) != expText(first) || !slices.Equal(l, free) {
			t.Fatalf("%s, then %s", expText(first), expText(again))
		}
	}
}
