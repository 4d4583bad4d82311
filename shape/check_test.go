package shape_test

import (
	"slices"
	"testing"

	"consort/api"
	"consort/shape"
)

func TestCheckExpAcceptsEachKind(t *testing.T) {
	for i, e := range []api.FormExp{
		num(0), num(api.FormMost), num(-api.FormMost),
		exp(api.FormNone, ""), name("x"), exp(api.FormSlot, "f", num(1)),
		exp(api.FormCall, "go", num(1)), exp(api.FormCall, "go", num(1), num(2), num(3)),
		exp(api.FormNew, "c"), exp(api.FormSet, "f", num(1), num(2)), exp(api.FormTurn, "c", num(1)),
		let("x", num(1), name("x")), exp(api.FormIf, "", num(1), num(2), num(3)),
		exp(api.FormSeq, "", num(1), num(2)), add(num(1), num(2)), exp(api.FormSub, "", num(1), num(2)),
		exp(api.FormMul, "", num(1), num(2)), exp(api.FormLess, "", num(1), num(2)),
		exp(api.FormSame, "", num(1), num(2)), out(num(1)), exp(api.FormNext, ""),
		{Op: api.FormNone, Kids: []api.FormExp{}},
		exp(api.FormAdd, "", exp(api.FormCall, "go", num(1)), exp(api.FormCall, "go", num(1), num(2))),
	} {
		if shape.CheckExp(e) != api.OK {
			t.Errorf("%d is formed", i)
		}
	}
}

func TestCheckExpRefusesWhatAKindDoesNotHave(t *testing.T) {
	kids := []api.FormExp{num(1), num(1), num(1), num(1)}
	has := []struct {
		op          api.FormOp
		text        bool
		number      bool
		least, most int
	}{
		{api.FormInt, false, true, 0, 0}, {api.FormNone, false, false, 0, 0}, {api.FormName, true, false, 0, 0},
		{api.FormSlot, true, false, 1, 1}, {api.FormCall, true, false, 1, 3}, {api.FormNew, true, false, 0, 0},
		{api.FormSet, true, false, 2, 2}, {api.FormTurn, true, false, 1, 1}, {api.FormLet, true, false, 2, 2},
		{api.FormIf, false, false, 3, 3}, {api.FormSeq, false, false, 2, 2}, {api.FormAdd, false, false, 2, 2},
		{api.FormSub, false, false, 2, 2}, {api.FormMul, false, false, 2, 2}, {api.FormLess, false, false, 2, 2},
		{api.FormSame, false, false, 2, 2}, {api.FormOut, false, false, 1, 1}, {api.FormNext, false, false, 0, 0},
	}
	for _, h := range has {
		for n := range kids {
			for _, text := range []string{"", "x", "in", "X", "abcdefghi"} {
				for _, number := range []int{0, 1, -1, api.FormMost, -api.FormMost, api.FormMost + 1, -api.FormMost - 1} {
					e := api.FormExp{Op: h.op, Text: text, N: number, Kids: kids[:n]}
					want := h.least <= n && n <= h.most && (text == "x") == h.text && (h.text || text == "") &&
						(number == 0 || h.number && -api.FormMost <= number && number <= api.FormMost)
					if (shape.CheckExp(e) == api.OK) != want {
						t.Errorf("kind %d with %d kids, %q, %d: formed %v", h.op, n, text, number, !want)
					}
				}
			}
		}
	}
	for _, op := range []api.FormOp{-1, 0, api.FormNext + 1, 1 << 40} {
		if shape.CheckExp(api.FormExp{Op: op}) != api.ErrArg || shape.CheckExp(out(api.FormExp{Op: op})) != api.ErrArg {
			t.Errorf("there is no kind %d", op)
		}
	}
}

func TestExpLimits(t *testing.T) {
	for _, x := range []struct {
		e     api.FormExp
		depth int
	}{
		{num(1), 1}, {chain(11, num(1)), 11}, {chain(12, num(1)), 12}, {chain(13, num(1)), 0}, {chain(500, num(1)), 0},
		{bush(119, num(1)), 7}, {bush(121, num(1)), 0}, {out(bush(119, num(1))), 8}, {out(out(bush(119, num(1)))), 0},
		{add(num(1), chain(11, num(1))), 12}, {add(chain(12, num(1)), num(1)), 0},
		{let("a", name("a"), add(name("a"), name("b"))), 3},
	} {
		want := api.OK
		if x.depth == 0 {
			want = api.ErrArg
		}
		if n, e := shape.Depth(x.e); n != x.depth || e != want || shape.CheckExp(x.e) != want {
			t.Errorf("Depth is %d (%d), not %d", n, e, x.depth)
		}
	}
}

func TestCheckFact(t *testing.T) {
	long := []string{"f", "g", "h"}
	for i, f := range []api.FormFact{
		{Op: api.FactTrue}, is("x", "c"), is("x", "any"), is("x", "int"), is("x", "none"), is("x", "c", "f", "f"),
		less("x", api.FormMost), less("x", -api.FormMost, "f"), {Op: api.FactSame, Name: "y", N: 3},
		both(api.FactNot, is("x", "c")), both(api.FactAnd, is("x", "c"), is("y", "d", "g")), both(api.FactOr, is("v", "c"), both(api.FactAnd, both(api.FactOr, is("w", "d"), is("x", "d")), is("y", "e"))),
		chainFact(12), bushFact(119), both(api.FactNot, bushFact(119)),
	} {
		if shape.CheckFact(f) != api.OK {
			t.Errorf("%d is formed alone", i)
		}
	}
	for i, f := range []api.FormFact{
		{}, {Op: -1}, {Op: api.FactOr + 1}, is("x", ""), is("", "c"), is("in", "c"), is("x", "in"), is("x", "true"), is("X", "c"),
		is("x", "c", long...), is("x", "c", ""), is("x", "c", "f", "in"), {Op: api.FactIs, Name: "x", Class: "c", N: 1},
		{Op: api.FactLess, Name: "x", Class: "c"}, {Op: api.FactSame, Name: "x", Class: "int"}, less("", 1), less("x", 1, long...),
		less("x", api.FormMost+1), {Op: api.FactSame, Name: "x", N: -api.FormMost - 1},
		{Op: api.FactTrue, Name: "x"}, {Op: api.FactTrue, Class: "c"}, {Op: api.FactTrue, N: 1}, {Op: api.FactTrue, Path: []string{"f"}},
		{Op: api.FactTrue, Kids: []api.FormFact{{Op: api.FactTrue}}}, {Op: api.FactIs, Name: "x", Class: "c", Kids: []api.FormFact{{Op: api.FactTrue}}},
		both(api.FactNot), both(api.FactNot, is("x", "c"), is("x", "c")), both(api.FactAnd, is("x", "c")), both(api.FactOr),
		both(api.FactOr, is("x", "c"), is("x", "c"), is("x", "c")), both(api.FactNot, api.FormFact{}),
		{Op: api.FactNot, Name: "x", Kids: []api.FormFact{is("x", "c")}}, {Op: api.FactNot, N: 1, Kids: []api.FormFact{is("x", "c")}},
		{Op: api.FactAnd, Class: "c", Kids: []api.FormFact{is("x", "c"), is("x", "c")}},
		chainFact(13), bushFact(121), both(api.FactNot, both(api.FactNot, bushFact(119))),
	} {
		if shape.CheckFact(f) != api.ErrArg {
			t.Errorf("%d is not formed alone", i)
		}
	}
}

func TestCheckAcceptsPrograms(t *testing.T) {
	for i, p := range []api.FormProg{
		{Main: num(1)},
		example(),
		changed(func(p *api.FormProg) { p.Classes[2].Parents = []string{"b", "a"} }),
		changed(func(p *api.FormProg) { p.Classes[1].Inits = []api.FormInit{{Slot: "g"}, {Slot: "f", N: -api.FormMost}} }),
		changed(func(p *api.FormProg) {
			p.Classes[1].Name, p.Classes[1].Parents, p.Classes[2].Parents = "f", nil, []string{"a", "f"}
			p.Classes[2].Inits = []api.FormInit{{Slot: "g", N: 1}}
		}),
		changed(func(p *api.FormProg) { p.Methods[0].Fact = is("x", "none", "f", "g") }),
		changed(func(p *api.FormProg) {
			p.Methods[0].Fact = both(api.FactOr, is("x", "any"), api.FormFact{Op: api.FactTrue})
		}),
		changed(func(p *api.FormProg) { p.Methods[0].Body = exp(api.FormNext, "") }),
		changed(func(p *api.FormProg) { p.Methods[1].Kind, p.Methods[1].Body = api.FormAround, exp(api.FormNext, "") }),
		changed(func(p *api.FormProg) { p.Methods[1].Kind = api.FormAfter }),
		changed(func(p *api.FormProg) {
			p.Methods[0].Body = exp(api.FormSet, "g", name("x"), exp(api.FormTurn, "b", name("x")))
		}),
		changed(func(p *api.FormProg) { p.Main = exp(api.FormCall, "go", num(1), num(2), num(3)) }),
		changed(func(p *api.FormProg) {
			p.Methods[0].Params, p.Methods[0].Fact, p.Methods[0].Body = []string{"f"}, is("f", "a", "f"), exp(api.FormSlot, "f", name("f"))
		}),
	} {
		if shape.Check(p) != api.OK {
			t.Errorf("%d is formed", i)
		}
	}
}

func TestCheckRefusesClasses(t *testing.T) {
	class := func(i int, by func(c *api.FormClass)) api.FormProg {
		return changed(func(p *api.FormProg) { by(&p.Classes[i]) })
	}
	refuse(t, []api.FormProg{
		changed(func(p *api.FormProg) { p.Classes[0], p.Classes[2] = p.Classes[2], p.Classes[0] }),
		class(1, func(c *api.FormClass) { c.Name = "a" }),
		class(1, func(c *api.FormClass) { c.Name = "" }),
		class(1, func(c *api.FormClass) { c.Name = "any" }),
		class(1, func(c *api.FormClass) { c.Parents = []string{"a", "a"} }),
		class(1, func(c *api.FormClass) { c.Parents = []string{"b"} }),
		class(1, func(c *api.FormClass) { c.Parents = []string{"c"} }),
		class(1, func(c *api.FormClass) { c.Parents = []string{"any"} }),
		class(1, func(c *api.FormClass) { c.Parents = []string{""} }),
		class(1, func(c *api.FormClass) { c.Slots = []string{"f"} }),
		class(1, func(c *api.FormClass) { c.Slots = []string{"g", "g"} }),
		class(1, func(c *api.FormClass) { c.Slots = []string{"in"} }),
		class(1, func(c *api.FormClass) { c.Slots = []string{"g", "h", "i", "j", "k"} }),
		class(0, func(c *api.FormClass) { c.Inits = []api.FormInit{{Slot: "g"}} }),
		class(0, func(c *api.FormClass) { c.Inits = []api.FormInit{{Slot: "h"}} }),
		class(2, func(c *api.FormClass) { c.Inits = []api.FormInit{{Slot: "f"}, {Slot: "f"}} }),
		class(2, func(c *api.FormClass) { c.Inits[0].N = api.FormMost + 1 }),
		class(2, func(c *api.FormClass) { c.Inits[0].N = -api.FormMost - 1 }),
	})
}

func TestClassNames(t *testing.T) {
	alone := func(names ...string) api.FormProg {
		p := api.FormProg{Main: num(1)}
		for _, s := range names {
			p.Classes = append(p.Classes, api.FormClass{Name: s})
		}
		return p
	}
	refuse(t, []api.FormProg{
		alone("a", "a"), alone("a", "b", "a"), alone(""), alone("any"), alone("int"), alone("none"), alone("A"), alone("abcdefghi"), alone("a", "in"),
	})
	if shape.Check(alone("a", "b", "abcdefgh")) != api.OK {
		t.Errorf("these names are different")
	}
}

func TestCheckRefusesMethods(t *testing.T) {
	method := func(i int, by func(m *api.FormMethod)) api.FormProg {
		return changed(func(p *api.FormProg) { by(&p.Methods[i]) })
	}
	body := func(e api.FormExp) api.FormProg {
		return method(0, func(m *api.FormMethod) { m.Body = e })
	}
	where := func(f api.FormFact) api.FormProg {
		return method(0, func(m *api.FormMethod) { m.Fact = f })
	}
	refuse(t, []api.FormProg{
		method(0, func(m *api.FormMethod) { m.Kind = 0 }),
		method(0, func(m *api.FormMethod) { m.Kind = -1 }),
		method(0, func(m *api.FormMethod) { m.Kind = api.FormAround + 1 }),
		method(0, func(m *api.FormMethod) { m.Name = "" }),
		method(0, func(m *api.FormMethod) { m.Name = "or" }),
		method(0, func(m *api.FormMethod) { m.Params, m.Fact, m.Body = nil, api.FormFact{Op: api.FactTrue}, num(1) }),
		method(0, func(m *api.FormMethod) { m.Params = []string{"x", "y"} }),
		method(1, func(m *api.FormMethod) { m.Params = []string{"x"} }),
		method(1, func(m *api.FormMethod) { m.Params, m.Fact.Name, m.Body = []string{"in"}, "in", num(1) }),
		where(is("y", "a")), where(is("x", "d")), where(is("x", "")), where(is("x", "f")), where(is("x", "a", "h")), where(is("x", "a", "a")),
		where(is("x", "a", "f", "f", "f")), where(api.FormFact{}), where(less("x", api.FormMost+1)), where(chainFact(13)), where(both(api.FactNot, is("y", "a"))),
		body(name("y")), body(let("y", name("y"), num(1))), body(exp(api.FormSlot, "h", name("x"))), body(exp(api.FormSet, "a", name("x"), name("x"))),
		body(exp(api.FormNew, "d")), body(exp(api.FormTurn, "int", name("x"))), body(exp(api.FormCall, "show", num(1), num(2))), body(api.FormExp{}), body(chain(13, name("x"))),
		method(1, func(m *api.FormMethod) { m.Body = exp(api.FormNext, "") }),
		method(1, func(m *api.FormMethod) { m.Kind, m.Body = api.FormAfter, out(exp(api.FormNext, "")) }),
		changed(func(p *api.FormProg) {
			p.Methods[1].Params = []string{"x", "y"}
			p.Main = num(1)
		}),
	})
	four := []string{"a", "b", "c", "d"}
	for n := range len(four) + 1 {
		params := slices.Clone(four[:n])
		p := api.FormProg{Methods: []api.FormMethod{{Kind: api.FormPrimary, Name: "go", Params: params, Fact: api.FormFact{Op: api.FactTrue}, Body: num(1)}}, Main: num(1)}
		if (shape.Check(p) == api.OK) != (1 <= n && n <= 3) {
			t.Errorf("%d parameters: %d", n, shape.Check(p))
		}
	}
	twice := api.FormProg{Methods: []api.FormMethod{{Kind: api.FormPrimary, Name: "go", Params: []string{"a", "a"}, Fact: api.FormFact{Op: api.FactTrue}, Body: num(1)}}, Main: num(1)}
	refuse(t, []api.FormProg{twice})
}

func TestCheckRefusesMains(t *testing.T) {
	main := func(e api.FormExp) api.FormProg {
		return changed(func(p *api.FormProg) { p.Main = e })
	}
	refuse(t, []api.FormProg{
		{}, main(api.FormExp{}), main(name("x")), main(let("x", name("x"), num(1))), main(exp(api.FormNext, "")), main(out(exp(api.FormNext, ""))),
		main(exp(api.FormSlot, "h", num(1))), main(exp(api.FormSet, "h", num(1), num(1))), main(exp(api.FormNew, "d")), main(exp(api.FormTurn, "d", num(1))),
		main(exp(api.FormCall, "show", num(1), num(2))), main(exp(api.FormCall, "show")),
		main(add(exp(api.FormCall, "go", num(1)), exp(api.FormCall, "go", num(1), num(2)))),
		main(chain(13, num(1))),
	})
}

func TestProgramLimits(t *testing.T) {
	formed := func(what string, most int, make func(n int) api.FormProg) {
		for n := range most + 3 {
			if (shape.Check(make(n)) == api.OK) != (n <= most) {
				t.Errorf("%d %s: %d", n, what, shape.Check(make(n)))
			}
		}
	}
	letters := alphabet()
	formed("classes", api.FormClasses, func(n int) api.FormProg {
		p := api.FormProg{Main: num(1)}
		for _, s := range letters[:n] {
			p.Classes = append(p.Classes, api.FormClass{Name: s})
		}
		return p
	})
	formed("parents", api.FormParents, func(n int) api.FormProg {
		p := api.FormProg{Main: num(1)}
		for _, s := range letters[:n] {
			p.Classes = append(p.Classes, api.FormClass{Name: s})
		}
		p.Classes = append(p.Classes, api.FormClass{Name: "z", Parents: letters[:n]})
		return p
	})
	formed("slots", api.FormSlots, func(n int) api.FormProg {
		return api.FormProg{Classes: []api.FormClass{{Name: "a", Slots: letters[:n]}, {Name: "b", Slots: letters[20:24]}}, Main: num(1)}
	})
	formed("methods", api.FormMethods, func(n int) api.FormProg {
		m := api.FormMethod{Kind: api.FormPrimary, Name: "go", Params: []string{"x"}, Fact: api.FormFact{Op: api.FactTrue}, Body: num(1)}
		return api.FormProg{Methods: slices.Repeat([]api.FormMethod{m}, n), Main: num(1)}
	})
	formed("functions called", api.FormGens, func(n int) api.FormProg {
		p := api.FormProg{Main: num(1)}
		for _, s := range letters[:n] {
			p.Main = exp(api.FormCall, s, p.Main)
		}
		return p
	})
	formed("functions with methods", api.FormGens, func(n int) api.FormProg {
		p := api.FormProg{Main: num(1)}
		for _, s := range letters[:n] {
			p.Methods = append(p.Methods, api.FormMethod{Kind: api.FormAfter, Name: s, Params: []string{"x"}, Fact: api.FormFact{Op: api.FactTrue}, Body: num(1)})
		}
		return p
	})
}

func TestNodesOfPrograms(t *testing.T) {
	for i, x := range []struct {
		p    api.FormProg
		want int
	}{
		{example(), 13},
		{api.FormProg{Main: num(1)}, 1},
		{changed(func(p *api.FormProg) { p.Methods[0].Fact = bushFact(39) }), 51},
		{changed(func(p *api.FormProg) { p.Methods[0].Body = bush(105, name("x")) }), 115},
		{changed(func(p *api.FormProg) { p.Methods[0].Body = out(bush(109, name("x"))) }), 120},
		{changed(func(p *api.FormProg) { p.Methods[0].Body = bush(111, name("x")) }), 0},
		{changed(func(p *api.FormProg) {
			p.Methods[1].Fact = both(api.FactNot, bushFact(107))
			p.Methods[1].Params = []string{"x"}
			p.Methods[1].Body = num(1)
		}), 118},
		{changed(func(p *api.FormProg) { p.Main = out(bush(109, num(1))) }), 0},
		{changed(func(p *api.FormProg) { p.Main = bush(109, num(1)) }), 120},
		{api.FormProg{Classes: []api.FormClass{{Name: "a"}}, Main: bush(119, num(1))}, 120},
		{api.FormProg{Classes: []api.FormClass{{Name: "a"}, {Name: "b"}}, Main: bush(119, num(1))}, 0},
	} {
		want := api.OK
		if x.want == 0 {
			want = api.ErrArg
		}
		if n, e := shape.Nodes(x.p); n != x.want || e != want || shape.Check(x.p) != want {
			t.Errorf("%d: %d nodes (%d), not %d", i, n, e, x.want)
		}
	}
}

// refuse asks everything that takes a program for programs that are not formed.
func refuse(t *testing.T, l []api.FormProg) {
	t.Helper()
	for i, p := range l {
		n, e1 := shape.Nodes(p)
		c, e2 := shape.Canon(p)
		gens, e3 := shape.Gens(p)
		slots, e4 := shape.Slots(p)
		above, e5 := shape.Above(p, "c")
		first, e6 := shape.Alike(p, example())
		second, e7 := shape.Alike(example(), p)
		for _, e := range []api.Errno{shape.Check(p), e1, e2, e3, e4, e5, e6, e7} {
			if e != api.ErrArg {
				t.Errorf("%d is not formed: %d", i, e)
			}
		}
		if n != 0 || gens != nil || slots != nil || above != nil || first || second || progText(c) != progText(api.FormProg{}) {
			t.Errorf("%d: there are results beside an error", i)
		}
	}
}
