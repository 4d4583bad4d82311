package bind_test

import (
	"fmt"
	"math/rand"
	"testing"

	"consort/api"
	"consort/bind"
	"consort/read"
	"consort/shape"
)

// source is the text of a program.
func source(p api.FormProg) string {
	s, e := read.Print(p)
	return fmt.Sprint(s, " ", e)
}

func TestFormExample(t *testing.T) {
	p, e := bind.Form(exampleQ())
	want(t, "no error", e, api.OK)
	want(t, "the program of Q", source(p), source(parse("class a { a } [ a = 7 ] class b : a { b } class c : b, a [ a = 1 ] "+
		"method a(a) where a is a { out(a.a) } before a(a) where a.a < 5 { let b = a in b } then a(new c)")))
	in, e := bind.InOrder(exampleQ())
	wantText(t, "Q is in order", tuple(in, e), tuple(true, api.OK))
}

func TestFormNames(t *testing.T) {
	at := func(n int) api.BindNode { return node(api.FormName, n) }
	let := func(a, b int) api.BindNode { return node(api.FormLet, 0, a, b) }
	none := node(api.FormNone, 0)
	for i, x := range []struct {
		nodes []api.BindNode
		want  string
	}{
		{[]api.BindNode{at(0)}, "a"},
		{[]api.BindNode{at(1)}, "b"},
		{[]api.BindNode{let(1, 2), at(1), at(2)}, "let c = b in c"},
		{[]api.BindNode{let(2, 1), at(1), at(0)}, "let c = a in b"},
		{[]api.BindNode{let(1, 2), none, let(3, 4), at(2), at(3)}, "let c = none in let d = c in d"},
		{[]api.BindNode{let(1, 4), let(2, 3), none, at(2), at(2)}, "let c = (let d = none in d) in c"},
		{[]api.BindNode{node(api.FormAdd, 0, 1, 4), let(2, 3), none, at(2), let(5, 6), none, at(2)}, "(let c = none in c) + (let d = none in d)"},
		{[]api.BindNode{node(api.FormAdd, 0, 4, 1), let(2, 3), none, at(2), let(5, 6), none, at(1)}, "(let c = none in b) + (let d = none in d)"},
	} {
		p, e := bind.Form(withBody(api.FormPrimary, x.nodes...))
		want(t, fmt.Sprint("names of ", i), source(p), source(parse("method a(a, b) where true { "+x.want+" } then none")))
		want(t, "no error", e, api.OK)
	}
	// More FormLets than there are letters.
	many := toldBind(parse("then " + letsOf(28)))
	lets := letNames(many, many.Main, 0)
	want(t, "the last name", lets[lastLet(many)], "ab")
	p, e := bind.Form(many)
	wantText(t, "28 FormLets", tuple(p, e), tuple(toldForm(many), api.OK))
}

// letsOf is an expression with a number of FormLets, as flat as can be.
func letsOf(count int) string {
	if count == 1 {
		return "(let x = 1 in x)"
	}
	return "(" + letsOf(count/2) + " + " + letsOf(count-count/2) + ")"
}

func lastLet(p api.BindProg) int {
	last := -1
	for i, n := range p.Nodes {
		if n.Op == api.FormLet {
			last = i
		}
	}
	return last
}

func TestFormNumbers(t *testing.T) {
	p := exampleQ()
	p.Classes = append(p.Classes, api.BindClass{Parents: []int{5, 3}, Slots: []int{2, 3}, Inits: []api.BindInit{{Slot: 3, N: 2}, {Slot: 0, N: -3}}})
	p.Slots, p.Gens = 4, []int{3, 2, 1}
	p.Methods = []api.BindMethod{
		{Kind: api.FormAround, Gen: 2, Fact: and(not(yes()), is(0, 6, 3, 2)), Node: 0},
		{Kind: api.FormAfter, Gen: 0, Fact: and(and(is(2, 0), is(1, 1)), and(is(0, 2), and(less(2, -4, 1), api.Fact{Op: api.FactSame, Arg: 1, N: 9}))), Node: 3},
	}
	p.Nodes[6] = node(api.FormCall, 1, 7, 8)
	p.Nodes = append(p.Nodes, node(api.FormSet, 3, 9, 10), node(api.FormTurn, 6, 11), node(api.FormInt, -9), node(api.FormNone, 0))
	wanted := "class a { a } [ a = 7 ] class b : a { b } class c : b, a [ a = 1 ] class d : c, a { c, d } [ d = 2, a = ~3 ] " +
		"around c(a) where not true and a.d.c is d { out(a.a) } " +
		"after a(a, b, c) where c is any and b is int and (a is none and (c.b < ~4 and b = 9)) { let d = a in b } " +
		"then b(new c, set d(turn d(none), ~9))"
	f, e := bind.Form(p)
	want(t, "no error", e, api.OK)
	want(t, "the program", source(f), source(parse(wanted)))
	in, e := bind.InOrder(p)
	wantText(t, "its functions are not in order", tuple(in, e), tuple(false, api.OK))
}

// TestFormTooLong: classes, nodes of facts and nodes are at most api.FormNodes.
func TestFormTooLong(t *testing.T) {
	program := func(classes, facts, nodes int) api.BindProg {
		p := alone(node(api.FormNone, 0))
		p.Classes, p.Gens = make([]api.BindClass, classes), []int{1}
		for facts > 0 {
			f := yes()
			if facts > 1 {
				f = longFact(min(24, facts/2*2))
			}
			facts -= len(factNodes(f))
			p.Methods = append(p.Methods, api.BindMethod{Kind: api.FormAfter, Fact: f, Node: len(p.Nodes)})
			p.Nodes = append(p.Nodes, node(api.FormNone, 0))
		}
		rest := nodes - len(p.Nodes)
		if rest%2 == 1 {
			p.Main = len(p.Nodes)
			p.Nodes = append(p.Nodes, node(api.FormOut, 0, 0))
			rest--
		}
		if rest > 0 {
			at := len(p.Nodes)
			p.Nodes = append(p.Nodes, bush(rest-1, at)...)
			p.Nodes = append(p.Nodes, node(api.FormSeq, 0, p.Main, at))
			p.Main = len(p.Nodes) - 1
		}
		return p
	}
	for _, x := range []struct {
		classes, facts, nodes int
		e                     api.Errno
	}{
		{0, 0, 120, api.OK}, {1, 0, 119, api.OK}, {1, 0, 120, api.ErrLong}, {10, 0, 110, api.OK}, {10, 0, 111, api.ErrLong}, {10, 0, 120, api.ErrLong},
		{0, 1, 119, api.OK}, {0, 1, 120, api.ErrLong}, {0, 48, 72, api.OK}, {0, 48, 73, api.ErrLong}, {4, 72, 44, api.OK}, {4, 72, 45, api.ErrLong}, {5, 72, 44, api.ErrLong}, {4, 73, 44, api.ErrLong},
		{10, 120, 6, api.ErrLong},
	} {
		p := program(x.classes, x.facts, x.nodes)
		f, e := bind.Form(p)
		want(t, fmt.Sprint("the error of ", x), e, x.e)
		want(t, "it is formed by numbers", bind.Check(p), api.OK)
		want(t, "its nodes", len(p.Nodes), x.nodes)
		wanted := toldForm(p)
		want(t, "its program is formed", shape.Check(wanted) == api.OK, x.e == api.OK)
		if x.e != api.OK {
			wanted = api.FormProg{}
			in, e := bind.InOrder(p)
			wantText(t, "it is not in order", tuple(in, e), tuple(false, api.OK))
		}
		wantText(t, "the program", f, wanted)
	}
	// By numbers it would be in order, but there is no formed program for it.
	p := alone(bush(119, 0)...)
	p.Classes = make([]api.BindClass, 2)
	in, e := bind.InOrder(p)
	wantText(t, "one without a formed program", tuple(in, e), tuple(false, api.OK))
	f, e := bind.Form(limit())
	wantText(t, "the limits", tuple(f, e), tuple(api.FormProg{}, api.ErrLong))
}

func TestInOrder(t *testing.T) {
	out, none, call := node(api.FormOut, 0, 1), node(api.FormNone, 0), node(api.FormCall, 0, 1)
	gens := func(p api.BindProg, l ...int) api.BindProg {
		p.Gens = l
		return p
	}
	for i, x := range []struct {
		p  api.BindProg
		is bool
	}{
		{alone(none), true}, {alone(out, none), true},
		{gens(alone(none), 1), false}, {gens(alone(call, none), 1), true}, {gens(alone(call, none), 1, 1), false},
		{gens(alone(node(api.FormCall, 1, 1), none), 1, 1), false},
		{gens(alone(node(api.FormCall, 0, 1), node(api.FormCall, 1, 2), none), 1, 1), true},
		{gens(alone(node(api.FormCall, 1, 1), node(api.FormCall, 0, 2), none), 1, 1), false},
		{gens(alone(node(api.FormCall, 0, 1, 2), node(api.FormInt, 1), node(api.FormInt, 2)), 2), true},
		{gens(alone(node(api.FormCall, 0, 2, 1), node(api.FormInt, 1), node(api.FormInt, 2)), 2), false},
		{api.BindProg{Nodes: []api.BindNode{none, node(api.FormOut, 0, 0)}, Main: 1}, false},
		{withBody(api.FormBefore, none), true},
		{changed(func(p *api.BindProg) {
			p.Nodes[1].Kids[0], p.Nodes[2], p.Nodes[7] = 7, p.Nodes[7], p.Nodes[2]
			p.Nodes[6].Kids[0] = 2
		}), false},
		{changed(func(p *api.BindProg) { p.Methods[0].Node, p.Methods[1].Node = 3, 0 }), false},
		{changed(func(p *api.BindProg) { p.Gens, p.Methods[0].Gen = []int{1, 1}, 1 }), false},
		{changed(func(p *api.BindProg) { p.Gens, p.Methods[1].Gen = []int{1, 1}, 1 }), true},
		{changed(func(p *api.BindProg) { p.Gens, p.Nodes[6].N = []int{1, 1}, 1 }), true},
		{changed(func(p *api.BindProg) { p.Nodes[5].N = 0 }), true},
	} {
		in, e := bind.InOrder(x.p)
		wantText(t, fmt.Sprint("in order ", i), tuple(in, e, toldInOrder(x.p)), tuple(x.is, api.OK, x.is))
	}
}

// TestFormMany: what Form returns is what the definitions say; bound again, it
// is the same program if that is in order, and else one that is.
func TestFormMany(t *testing.T) {
	r := rand.New(rand.NewSource(8))
	met := map[bool]int{}
	for range 4000 {
		p := bound(r)
		f, e := bind.Form(p)
		told := toldForm(p)
		if shape.Check(told) != api.OK {
			t.Fatalf("no program for %v", p)
		}
		wantText(t, "the program", tuple(f, e), tuple(told, api.OK))
		canon, _ := shape.Canon(f)
		wantText(t, "its bound names are chosen anew", f, canon)
		in, e := bind.InOrder(p)
		met[in]++
		wantText(t, "in order", tuple(in, e), tuple(toldInOrder(p), api.OK))
		q, e := bind.Bind(f)
		inAgain, e2 := bind.InOrder(q)
		wantText(t, "what is bound again is in order", tuple(e, inAgain, e2), tuple(api.OK, true, api.OK))
		if in {
			wantText(t, "what is bound again", q, p)
		}
		if t.Failed() {
			return
		}
	}
	if met[true] < 1000 || met[false] < 1000 {
		t.Errorf("too few of a kind: %v", met)
	}
}

// TestFormOfBound: a program is the same up to names as the one for its own.
func TestFormOfBound(t *testing.T) {
	r := rand.New(rand.NewSource(9))
	bounds := 0
	for range 1500 {
		p := anyProg(r)
		q, e := bind.Bind(p)
		if e != api.OK {
			continue
		}
		bounds++
		f, e := bind.Form(q)
		want(t, "no error", e, api.OK)
		alike, e := shape.Alike(renamed(f, p), p)
		wantText(t, "the same up to names", tuple(alike, e), tuple(true, api.OK))
		if t.Failed() {
			return
		}
	}
	if bounds < 700 {
		t.Errorf("too few programs: %d", bounds)
	}
}

// renamed is the program for one by numbers with the names of classes, slots
// and functions that another one has.
func renamed(f, p api.FormProg) api.FormProg {
	classes, slots, gens := map[string]string{"any": "any", "int": "int", "none": "none"}, map[string]string{}, map[string]string{}
	for i, c := range p.Classes {
		classes[f.Classes[i].Name] = c.Name
		for k, slot := range c.Slots {
			slots[f.Classes[i].Slots[k]] = slot
		}
	}
	names, _ := toldGens(p)
	for i, name := range names {
		gens[first(i)] = name
	}
	f = clone(f)
	each := func(l []string, names map[string]string) {
		for i := range l {
			l[i] = names[l[i]]
		}
	}
	for i := range f.Classes {
		c := &f.Classes[i]
		c.Name = classes[c.Name]
		each(c.Parents, classes)
		each(c.Slots, slots)
		for k := range c.Inits {
			c.Inits[k].Slot = slots[c.Inits[k].Slot]
		}
	}
	var fact func(f *api.FormFact)
	fact = func(f *api.FormFact) {
		f.Class = classes[f.Class]
		each(f.Path, slots)
		for i := range f.Kids {
			fact(&f.Kids[i])
		}
	}
	var exp func(e *api.FormExp)
	exp = func(e *api.FormExp) {
		switch e.Op {
		case api.FormSlot, api.FormSet:
			e.Text = slots[e.Text]
		case api.FormNew, api.FormTurn:
			e.Text = classes[e.Text]
		case api.FormCall:
			e.Text = gens[e.Text]
		}
		for i := range e.Kids {
			exp(&e.Kids[i])
		}
	}
	for i := range f.Methods {
		m := &f.Methods[i]
		m.Name = gens[m.Name]
		fact(&m.Fact)
		exp(&m.Body)
	}
	exp(&f.Main)
	return f
}
