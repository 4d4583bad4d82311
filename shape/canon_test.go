package shape_test

import (
	"math/rand"
	"slices"
	"strings"
	"testing"

	"consort/api"
	"consort/shape"
)

func TestCanonOfTheExample(t *testing.T) {
	want := changed(func(p *api.FormProg) {
		p.Methods[0].Params, p.Methods[0].Fact, p.Methods[0].Body = []string{"a"}, is("a", "a"), out(exp(api.FormSlot, "f", name("a")))
		p.Methods[1].Params, p.Methods[1].Fact, p.Methods[1].Body = []string{"a"}, less("a", 5, "f"), let("b", name("a"), name("b"))
	})
	if c, e := shape.Canon(example()); progText(c) != progText(want) || e != api.OK {
		t.Errorf("%s (%d)", progText(c), e)
	}
}

// with is the example with other things in its first method, and another Main.
func with(params string, f api.FormFact, body, main api.FormExp) api.FormProg {
	return api.FormProg{
		Classes: example().Classes,
		Methods: []api.FormMethod{{Kind: api.FormAround, Name: "go", Params: strings.Fields(params), Fact: f, Body: body}},
		Main:    main,
	}
}

func TestCanonChoosesInOrder(t *testing.T) {
	a, b, c, x, y := name("a"), name("b"), name("c"), name("x"), name("y")
	yes := api.FormFact{Op: api.FactTrue}
	for i, z := range []struct{ p, want api.FormProg }{
		// Parameters that trade their names, in facts too; slots and classes keep theirs.
		{with("b a", both(api.FactAnd, is("b", "a", "f"), both(api.FactNot, less("a", 3))), add(a, b), num(1)),
			with("a b", both(api.FactAnd, is("a", "a", "f"), both(api.FactNot, less("b", 3))), add(b, a), num(1))},
		{with("z y x", both(api.FactOr, is("x", "int"), is("z", "b", "g", "f")), add(x, y), num(1)),
			with("a b c", both(api.FactOr, is("c", "int"), is("a", "b", "g", "f")), add(c, b), num(1))},
		// The FormLets are gone through in the order of the nodes, each has a name of its own.
		{with("x", yes, let("x", let("x", x, x), let("x", x, x)), let("x", num(1), let("x", x, x))),
			with("a", yes, let("b", let("c", a, c), let("d", b, name("d"))), let("a", num(1), let("b", a, b)))},
		{with("y", yes, add(let("x", y, x), let("x", y, x)), add(let("x", num(1), x), let("x", num(2), x))),
			with("a", yes, add(let("b", a, b), let("c", a, c)), add(let("a", num(1), a), let("b", num(2), b)))},
		{with("y", yes, exp(api.FormSeq, "", exp(api.FormNext, ""), exp(api.FormSet, "f", y, exp(api.FormTurn, "a", y))), num(1)),
			with("a", yes, exp(api.FormSeq, "", exp(api.FormNext, ""), exp(api.FormSet, "f", a, exp(api.FormTurn, "a", a))), num(1))},
	} {
		if got, e := shape.Canon(z.p); progText(got) != progText(z.want) || e != api.OK {
			t.Errorf("%d: %s (%d), not %s", i, progText(got), e, progText(z.want))
		}
	}
}

func TestCanonGoesOnBehindZ(t *testing.T) {
	c, e := shape.Canon(api.FormProg{Main: bushOf(24, let("x", num(1), name("x")))})
	if e != api.OK || strings.Join(letNames(c.Main), "") != "abcdefghijklmnopqrstuvwx" {
		t.Errorf("%q (%d)", letNames(c.Main), e)
	}
	c, e = shape.Canon(api.FormProg{Main: bushOf(5, nested(8))})
	want := append(alphabet(), "aa", "ab", "ac", "ad", "ae", "af", "ag", "ah", "ai", "aj", "ak", "al", "am", "an")
	if e != api.OK || !slices.Equal(letNames(c.Main), want) {
		t.Errorf("%q (%d)", letNames(c.Main), e)
	}
}

// nested is an expression of n FormLets, each in the one ahead of it.
func nested(n int) api.FormExp {
	e := num(0)
	for range n {
		e = let("x", num(1), e)
	}
	return e
}

// bushOf adds n copies of an expression.
func bushOf(n int, leaf api.FormExp) api.FormExp { return bush(2*n-1, leaf) }

func letNames(e api.FormExp) []string {
	var l []string
	if e.Op == api.FormLet {
		l = append(l, e.Text)
	}
	for _, kid := range e.Kids {
		l = append(l, letNames(kid)...)
	}
	return l
}

func TestAlike(t *testing.T) {
	for i, q := range []api.FormProg{
		example(),
		changed(func(p *api.FormProg) {
			p.Methods[0].Params, p.Methods[0].Fact.Name, p.Methods[0].Body = []string{"y"}, "y", out(exp(api.FormSlot, "f", name("y")))
		}),
		changed(func(p *api.FormProg) { p.Methods[1].Body = let("y", name("y"), name("y")) }),
		changed(func(p *api.FormProg) {
			p.Classes[0].Parents, p.Classes[1].Inits, p.Methods[0].Fact.Path, p.Methods[0].Fact.Kids = []string{}, []api.FormInit{}, []string{}, []api.FormFact{}
		}),
	} {
		if is, e := shape.Alike(example(), q); !is || e != api.OK {
			t.Errorf("%d is the same: %d", i, e)
		}
	}
	for i, q := range []api.FormProg{
		changed(func(p *api.FormProg) { p.Classes = append(p.Classes, api.FormClass{Name: "d"}) }),
		changed(func(p *api.FormProg) { p.Classes[0].Inits[0].N = 8 }),
		changed(func(p *api.FormProg) { p.Classes[1].Inits = []api.FormInit{{Slot: "f"}} }),
		changed(func(p *api.FormProg) { p.Classes[2].Parents = []string{"b", "a"} }),
		changed(func(p *api.FormProg) { p.Classes[1].Slots = []string{"h"} }),
		changed(func(p *api.FormProg) {
			p.Classes[2].Name, p.Main = "d", exp(api.FormCall, "show", exp(api.FormNew, "d"))
		}),
		changed(func(p *api.FormProg) { p.Methods[0].Kind = api.FormAround }),
		changed(func(p *api.FormProg) { p.Methods = p.Methods[:1] }),
		changed(func(p *api.FormProg) { p.Methods[1].Name = "go" }),
		changed(func(p *api.FormProg) { p.Methods[0], p.Methods[1] = p.Methods[1], p.Methods[0] }),
		changed(func(p *api.FormProg) { p.Methods[0].Fact.Class = "b" }),
		changed(func(p *api.FormProg) { p.Methods[0].Fact.Path = []string{"f"} }),
		changed(func(p *api.FormProg) { p.Methods[1].Fact.N = 6 }),
		changed(func(p *api.FormProg) { p.Methods[1].Fact.Op = api.FactSame }),
		changed(func(p *api.FormProg) { p.Methods[1].Fact = both(api.FactNot, p.Methods[1].Fact) }),
		changed(func(p *api.FormProg) { p.Methods[0].Body = out(exp(api.FormSlot, "g", name("x"))) }),
		changed(func(p *api.FormProg) { p.Methods[0].Body = out(num(1)) }),
		changed(func(p *api.FormProg) { p.Methods[1].Body = let("z", name("y"), name("y")) }),
		changed(func(p *api.FormProg) { p.Main = exp(api.FormCall, "show", num(1)) }),
		changed(func(p *api.FormProg) { p.Main = exp(api.FormCall, "show", exp(api.FormNew, "b")) }),
	} {
		one, e := shape.Alike(example(), q)
		two, f := shape.Alike(q, example())
		if one || two || e != api.OK || f != api.OK {
			t.Errorf("%d is not the same: %d %d", i, e, f)
		}
	}
	swapped := with("x y", api.FormFact{Op: api.FactTrue}, add(name("y"), name("x")), num(1))
	straight := with("x y", api.FormFact{Op: api.FactTrue}, add(name("x"), name("y")), num(1))
	if is, e := shape.Alike(swapped, straight); is || e != api.OK {
		t.Errorf("parameters do not stand for each other: %d", e)
	}
}

// randomProg is a formed program; all of them have the same classes.
func randomProg(r *rand.Rand) api.FormProg {
	p := api.FormProg{Classes: example().Classes, Main: randomExp(r, 3, nil, true)}
	for range r.Intn(3) {
		params := []string{"x", "b", "a"}
		r.Shuffle(len(params), func(i, j int) { params[i], params[j] = params[j], params[i] })
		params = params[:1+r.Intn(3)]
		f := both(api.FactOr, is(params[0], "a"), less(params[len(params)-1], 3, "f"))
		p.Methods = append(p.Methods, api.FormMethod{Kind: api.FormPrimary, Name: []string{"o", "p", "q"}[len(params)-1], Params: params, Fact: f, Body: randomExp(r, 3, params, true)})
	}
	return p
}

// progNameless is the text of a program without its bound names.
func progNameless(p api.FormProg) string {
	main := nameless(p.Main, nil, itself)
	methods := ""
	for _, m := range p.Methods {
		methods += m.Name + nameless(m.Body, m.Params, itself) + nameless(factExp(m.Fact), m.Params, itself)
	}
	return methods + main
}

// factExp writes a fact as an expression.
func factExp(f api.FormFact) api.FormExp {
	e := api.FormExp{Op: api.FormCall, Text: f.Class + "/" + strings.Join(f.Path, "."), N: int(f.Op)*1000 + f.N}
	if f.Name != "" {
		e.Kids = append(e.Kids, name(f.Name))
	}
	for _, kid := range f.Kids {
		e.Kids = append(e.Kids, factExp(kid))
	}
	return e
}

func TestCanonAndAlikeOfMany(t *testing.T) {
	r := rand.New(rand.NewSource(3))
	var last api.FormProg
	for i := range 5000 {
		p := randomProg(r)
		c, e := shape.Canon(p)
		if e != api.OK || shape.Check(c) != api.OK {
			t.Fatalf("%s: %d", progText(p), e)
		}
		if progNameless(c) != progNameless(p) {
			t.Fatalf("%s says something else than %s", progText(c), progText(p))
		}
		if again, _ := shape.Canon(c); progText(again) != progText(c) {
			t.Fatalf("%s has the canonical one %s", progText(c), progText(again))
		}
		if one, _ := shape.Alike(p, c); !one {
			t.Fatalf("%s is the same as %s", progText(p), progText(c))
		}
		if i > 0 {
			one, _ := shape.Alike(p, last)
			two, _ := shape.Alike(last, p)
			if want := progNameless(p) == progNameless(last); one != want || two != want {
				t.Fatalf("%s, %s: the same %v %v", progText(p), progText(last), one, two)
			}
		}
		last = p
	}
}
