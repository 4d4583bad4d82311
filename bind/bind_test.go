package bind_test

import (
	"fmt"
	"math/rand"
	"slices"
	"strings"
	"testing"

	"consort/api"
	"consort/bind"
	"consort/shape"
)

func TestBindExamples(t *testing.T) {
	p, e := bind.Bind(parse(sourceP()))
	wantText(t, "P", tuple(p, e), tuple(api.BindProg{}, api.ErrRule))
	q, e := bind.Bind(parse(sourceQ()))
	wantText(t, "Q", tuple(q, e), tuple(exampleQ(), api.OK))
}

// nodesText writes the nodes of a program, and Main: kinds by their words,
// numbers, and Kids in brackets.
func nodesText(p api.BindProg) string {
	words := []string{"", "int", "none", "at", "slot", "call", "new", "set", "turn", "let", "if", "seq", "add", "sub", "mul", "less", "same", "out", "next"}
	var l []string
	for _, n := range p.Nodes {
		s := fmt.Sprint(words[n.Op], n.N)
		if len(n.Kids) > 0 {
			s += strings.ReplaceAll(fmt.Sprint(n.Kids), " ", ",")
		}
		l = append(l, s)
	}
	return fmt.Sprint(strings.Join(l, " "), " main ", p.Main)
}

func TestBindNodes(t *testing.T) {
	for i, x := range []struct{ source, want string }{
		{"then none", "none0 main 0"},
		{"then let x = 1 in x", "let0[1,2] int1 at0 main 0"},
		{"then let x = 1 in let x = x in x", "let0[1,2] int1 let0[3,4] at0 at1 main 0"},
		{"then let x = 1 in let y = x in x + y", "let0[1,2] int1 let0[3,4] at0 add0[5,6] at0 at1 main 0"},
		{"then (let x = 1 in x) + (let y = 2 in y)", "add0[1,4] let0[2,3] int1 at0 let0[5,6] int2 at0 main 0"},
		{"then let x = (let x = 1 in x) in x", "let0[1,4] let0[2,3] int1 at0 at0 main 0"},
		{"method o(x, y) where true { let x = y in x - y } then 0", "let0[1,2] at1 sub0[3,4] at2 at1 int0 main 5"},
		{"method o(x, y, z) where true { let y = z in let z = y in x * y * z } then 0",
			"let0[1,2] at2 let0[3,4] at3 mul0[5,8] mul0[6,7] at0 at3 at4 int0 main 9"},
		{"method o(x) where true { next } around o(x) where true { next = 1 } then o(2 < 3); o(~4)",
			"next0 same0[2,3] next0 int1 seq0[5,9] call0[6] less0[7,8] int2 int3 call0[10] int-4 main 4"},
	} {
		p, e := bind.Bind(parse(x.source))
		want(t, fmt.Sprint("nodes of ", i), nodesText(p), x.want)
		want(t, "no error", e, api.OK)
	}
	for op := api.FormInt; op <= api.FormNext; op++ {
		p := parse("class a class b : a { f, g } method go(x, y) where true { none } then none")
		exp := api.FormExp{Op: op, N: []int{0, -7}[map[bool]int{op == api.FormInt: 1}[true]]}
		exp.Text = map[api.FormOp]string{api.FormName: "y", api.FormSlot: "g", api.FormSet: "g", api.FormCall: "go", api.FormNew: "b", api.FormTurn: "b", api.FormLet: "y"}[op]
		n := map[api.FormOp]int{api.FormInt: -7, api.FormName: 1, api.FormSlot: 1, api.FormSet: 1, api.FormNew: 4, api.FormTurn: 4}[op]
		kids := toldKids(api.BindProg{Gens: []int{2}}, node(op, 0))
		wanted := node(op, n)
		for i := range kids {
			exp.Kids = append(exp.Kids, api.FormExp{Op: api.FormNone})
			wanted.Kids = append(wanted.Kids, 1+i)
		}
		p.Methods[0].Body = exp
		q, e := bind.Bind(p)
		wantText(t, fmt.Sprint("kind ", op), tuple(q.Nodes[0], len(q.Nodes), e), tuple(wanted, kids+2, api.OK))
	}
}

func TestBindNumbers(t *testing.T) {
	p, e := bind.Bind(parse("class z { y, a } [ a = 3 ] class a { b } class m : a, z { m, c } [ b = ~1, y = 0, m = 5 ] class b : m then 0"))
	wanted := []api.BindClass{
		{Slots: []int{0, 1}, Inits: []api.BindInit{{Slot: 1, N: 3}}},
		{Slots: []int{2}},
		{Parents: []int{4, 3}, Slots: []int{3, 4}, Inits: []api.BindInit{{Slot: 2, N: -1}, {Slot: 0, N: 0}, {Slot: 3, N: 5}}},
		{Parents: []int{5}},
	}
	wantText(t, "classes", tuple(p.Classes, p.Slots, e), tuple(wanted, 5, api.OK))
	// Functions: the methods' first, then those that bodies call, then those that Main calls.
	p, e = bind.Bind(parse("method c(x) where true { a(x, d(x)) } method b(x) where true { e(c(1)) } after c(y) where true { f(1, 2, 3) } then b(g(1, 2)); a(1, 2)"))
	var gens []int
	for _, m := range p.Methods {
		gens = append(gens, m.Gen)
	}
	var calls []int
	for _, n := range p.Nodes {
		if n.Op == api.FormCall {
			calls = append(calls, n.N)
		}
	}
	wantText(t, "functions", tuple(p.Gens, gens, calls, e), tuple([]int{1, 1, 2, 1, 1, 3, 2}, []int{0, 1, 0}, []int{2, 3, 4, 0, 5, 1, 6, 2}, api.OK))
	p, _ = bind.Bind(parse("class a { f } class b { g } method o(x, y, z) where (z is b or not y.g.f < 3) and (x.f = ~2 or true) and (y is any and (x is int or z.g is none)) { 0 } then 0"))
	or := func(f, g api.Fact) api.Fact { return api.Fact{Op: api.FactOr, Kids: []api.Fact{f, g}} }
	fact := and(and(or(is(2, 4), not(less(1, 3, 1, 0))), or(api.Fact{Op: api.FactSame, Path: []int{0}, N: -2}, yes())), and(is(1, 0), or(is(0, 1), is(2, 2, 1))))
	wantText(t, "a fact", p.Methods[0].Fact, fact)
	for i, kind := range []string{"method", "before", "after", "around"} {
		p, _ = bind.Bind(parse("method o(x) where true { 1 } " + kind + " o(x) where true { 2 } then 0"))
		wantText(t, kind, tuple(p.Methods[1].Kind, p.Methods[1].Node, p.Main), tuple(1+i, 1, 2))
	}
}

func TestBindErrors(t *testing.T) {
	six := "(" + strings.Repeat("x is any or ", 5) + "true)"
	long := "method o(x) where " + six + " and " + six + " and x is any { 0 } "
	short := "method o(x) where not (" + six + " and " + six + ") { 0 } "
	crossed := "class a class b class c : a, b class d : b, a class e : c, d "
	unformed := func(source string) api.FormProg {
		p := parse(source)
		p.Main = api.FormExp{Op: api.FormNext}
		return p
	}
	for i, x := range []struct {
		p api.FormProg
		e api.Errno
	}{
		{parse(short + "then 0"), api.OK},
		{parse(long + "then 0"), api.ErrLong},
		{parse(short + "around" + long[6:] + "then 0"), api.ErrLong},
		{parse(crossed + "then 0"), api.ErrRule},
		{parse(crossed + "class f : e then 0"), api.ErrRule},
		{parse(crossed + long + "then 0"), api.ErrRule},
		{parse("class a class b : a class c : a, b class d then 0"), api.ErrRule},
		{unformed("then 0"), api.ErrArg},
		{unformed(crossed + long + "then 0"), api.ErrArg},
		{unformed(long + "then 0"), api.ErrArg},
		{api.FormProg{}, api.ErrArg},
	} {
		p, e := bind.Bind(x.p)
		want(t, fmt.Sprint("error of ", i), e, x.e)
		if e != api.OK {
			wantText(t, "what comes with an error", p, api.BindProg{})
		} else {
			wantFormed(t, i, p, true)
		}
	}
}

// limitProg has as much of each as a program can have.
func limitProg() api.FormProg {
	var p api.FormProg
	for i := range 10 {
		c := api.FormClass{Name: first(i), Slots: firsts([]int{4 * i, 4*i + 1, 4*i + 2, 4*i + 3})}
		for n := range min(i, 3) {
			c.Parents = append(c.Parents, first(i-1-n))
		}
		c.Inits = []api.FormInit{{Slot: first(4*i + 3), N: api.FormMost}, {Slot: first(i), N: -api.FormMost}}
		p.Classes = append(p.Classes, c)
	}
	for i := range 16 {
		p.Methods = append(p.Methods, api.FormMethod{Kind: api.FormBefore, Name: first(i % 8), Params: []string{"z", "y", "x"},
			Fact: api.FormFact{Op: api.FactIs, Name: "x", Path: []string{first(39), first(0)}, Class: first(9)}, Body: api.FormExp{Op: api.FormName, Text: "x"}})
	}
	p.Main = api.FormExp{Op: api.FormOut, Kids: []api.FormExp{bushExp(77)}}
	return p
}

func TestBindLimits(t *testing.T) {
	deep := parse("method o(x) where true { " + strings.Repeat("let x = 1 in ", 11) + "x } then " + strings.Repeat("let x = 1 in ", 11) + "x")
	most := api.FormProg{Main: api.FormExp{Op: api.FormOut, Kids: []api.FormExp{bushExp(119)}}}
	for i, p := range []api.FormProg{limitProg(), deep, most} {
		q, e := bind.Bind(p)
		wantText(t, fmt.Sprint("at the limits ", i), tuple(q, e), tuple(toldBind(p), api.OK))
		wantFormed(t, i, q, true)
	}
	q, _ := bind.Bind(limitProg())
	wantText(t, "how much there is", tuple(len(q.Classes), q.Slots, len(q.Gens), len(q.Methods), len(q.Nodes)), tuple(10, 40, 8, 16, 94))
	q, _ = bind.Bind(deep)
	want(t, "the last place", q.Nodes[q.Main-1].N, 11)
	q, _ = bind.Bind(most)
	want(t, "the most nodes", len(q.Nodes), api.FormNodes)
}

// bushExp is an expression of an odd number of nodes, as flat as can be.
func bushExp(nodes int) api.FormExp {
	l := slices.Repeat([]api.FormExp{{Op: api.FormNone}}, (nodes+1)/2)
	for len(l) > 1 {
		l = append(l[2:], api.FormExp{Op: api.FormMul, Kids: []api.FormExp{l[0], l[1]}})
	}
	return l[0]
}

func TestBindMany(t *testing.T) {
	r := rand.New(rand.NewSource(7))
	met := map[api.Errno]int{}
	for range 4000 {
		p := anyProg(r)
		if r.Intn(20) == 0 {
			p = broken(r, p)
		}
		q, e := bind.Bind(p)
		met[e]++
		want(t, "the error", e, toldError(p))
		if e != api.OK {
			wantText(t, "with an error", q, api.BindProg{})
			continue
		}
		wantText(t, "a program by numbers", q, toldBind(p))
		in, e := bind.InOrder(q)
		wantText(t, "it is formed and in order", tuple(bind.Check(q), in, e), tuple(api.OK, true, api.OK))
		canon, _ := shape.Canon(p)
		same, e := bind.Bind(canon)
		wantText(t, "that of the same program", tuple(same, e), tuple(q, api.OK))
		if t.Failed() {
			return
		}
	}
	if met[api.OK] < 2000 || met[api.ErrRule] < 200 || met[api.ErrLong] < 100 || met[api.ErrArg] < 50 {
		t.Errorf("too few of an error: %v", met)
	}
}

// toldError is the error of Bind for a program.
func toldError(p api.FormProg) api.Errno {
	if shape.Check(p) != api.OK {
		return api.ErrArg
	}
	q := toldBind(p)
	for _, m := range q.Methods {
		if len(factNodes(m.Fact)) > 24 {
			// Without its fact the program has nothing else that is too long.
			q.Methods = nil
			q.Nodes, q.Main = []api.BindNode{node(api.FormNone, 0)}, 0
			if toldClassesFormed(q) {
				return api.ErrLong
			}
			return api.ErrRule
		}
	}
	if !toldClassesFormed(q) {
		return api.ErrRule
	}
	return api.OK
}
