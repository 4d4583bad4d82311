package bind_test

import (
	"fmt"
	"slices"
	"testing"

	"consort/api"
	"consort/read"
)

func want[T comparable](t *testing.T, what string, got, want T) {
	t.Helper()
	if got != want {
		t.Errorf("%s: %v, not %v", what, got, want)
	}
}

// wantText holds anything against what it should be: nil and empty lists are
// the same in texts.
func wantText(t *testing.T, what string, got, want any) {
	t.Helper()
	if g, w := fmt.Sprint(got), fmt.Sprint(want); g != w {
		t.Errorf("%s: %s, not %s", what, g, w)
	}
}

// tuple is several results in one list.
func tuple(l ...any) []any { return l }

// parse returns the program of a source.
func parse(source string) api.FormProg {
	p, e := read.Parse(source)
	if e != api.OK {
		fault, _ := read.Fault(source)
		panic(fmt.Sprint(source, ": ", e, fault))
	}
	return p
}

const showQ = " method show(x) where x is a { out(x.f) } before show(y) where y.f < 5 { let z = y in z } then show(new c)"

// The programs P and Q of the chapter.

func sourceP() string {
	return "class a { f } [ f = 7 ] class b : a { g } class c : a, b [ f = 1 ]" + showQ
}

func sourceQ() string {
	return "class a { f } [ f = 7 ] class b : a { g } class c : b, a [ f = 1 ]" + showQ
}

func node(op api.FormOp, n int, kids ...int) api.BindNode {
	return api.BindNode{Op: op, N: n, Kids: kids}
}

func yes() api.Fact { return api.Fact{Op: api.FactTrue} }

func is(arg, class int, path ...int) api.Fact {
	return api.Fact{Op: api.FactIs, Arg: arg, Class: class, Path: path}
}

func less(arg, n int, path ...int) api.Fact {
	return api.Fact{Op: api.FactLess, Arg: arg, N: n, Path: path}
}

func not(f api.Fact) api.Fact { return api.Fact{Op: api.FactNot, Kids: []api.Fact{f}} }

func and(f, g api.Fact) api.Fact { return api.Fact{Op: api.FactAnd, Kids: []api.Fact{f, g}} }

// exampleQ is the program Q by numbers.
func exampleQ() api.BindProg {
	return api.BindProg{
		Classes: []api.BindClass{
			{Slots: []int{0}, Inits: []api.BindInit{{Slot: 0, N: 7}}},
			{Parents: []int{3}, Slots: []int{1}},
			{Parents: []int{4, 3}, Inits: []api.BindInit{{Slot: 0, N: 1}}},
		},
		Slots: 2,
		Gens:  []int{1},
		Methods: []api.BindMethod{
			{Kind: api.FormPrimary, Gen: 0, Fact: is(0, 3), Node: 0},
			{Kind: api.FormBefore, Gen: 0, Fact: less(0, 5, 0), Node: 3},
		},
		Nodes: []api.BindNode{
			node(api.FormOut, 0, 1), node(api.FormSlot, 0, 2), node(api.FormName, 0),
			node(api.FormLet, 0, 4, 5), node(api.FormName, 0), node(api.FormName, 1),
			node(api.FormCall, 0, 7), node(api.FormNew, 5),
		},
		Main: 6,
	}
}

func changed(by func(p *api.BindProg)) api.BindProg {
	p := exampleQ()
	by(&p)
	return p
}

// withMain is the example with some nodes, numbered from 6 on, in place of
// those of Main.
func withMain(nodes ...api.BindNode) api.BindProg {
	return changed(func(p *api.BindProg) { p.Nodes = append(p.Nodes[:6:6], nodes...) })
}

// alone is a program that has nothing but the nodes of Main.
func alone(nodes ...api.BindNode) api.BindProg { return api.BindProg{Nodes: nodes} }

// withBody is a program with a method of a kind, with two parameters, whose
// nodes begin with the first one; Main is a node behind them.
func withBody(kind api.FormKind, nodes ...api.BindNode) api.BindProg {
	return api.BindProg{
		Gens:    []int{2},
		Methods: []api.BindMethod{{Kind: kind, Fact: yes()}},
		Nodes:   append(slices.Clone(nodes), node(api.FormNone, 0)),
		Main:    len(nodes),
	}
}

// chain is a list of nodes each of which is the only Kid of the one ahead of it.
func chain(length int, from int) []api.BindNode {
	var l []api.BindNode
	for i := range length - 1 {
		l = append(l, node(api.FormOut, 0, from+i+1))
	}
	return append(l, node(api.FormNone, 0))
}

// bush is a list of an odd number of nodes, as flat as can be.
func bush(count int, from int) []api.BindNode {
	var l []api.BindNode
	for i := range count {
		if kid := from + 2*i + 1; kid+1 < from+count {
			l = append(l, node(api.FormAdd, 0, kid, kid+1))
		} else {
			l = append(l, node(api.FormInt, i))
		}
	}
	return l
}

// limit has as much of each as a program by numbers can have.
func limit() api.BindProg {
	p := api.BindProg{Slots: 40, Gens: []int{1, 2, 3, 3, 3, 3, 3, 3}}
	for i := range 10 {
		c := api.BindClass{Slots: []int{4 * i, 4*i + 1, 4*i + 2, 4*i + 3}}
		for parent := i + 2; parent >= 3 && len(c.Parents) < 3; parent-- {
			c.Parents = append(c.Parents, parent)
		}
		for slot := range 4*i + 4 {
			c.Inits = append(c.Inits, api.BindInit{Slot: slot, N: api.FormMost - 2*api.FormMost*(slot%2)})
		}
		p.Classes = append(p.Classes, c)
	}
	for i := range 16 {
		p.Methods = append(p.Methods, api.BindMethod{Kind: api.FormKind(1 + i%4), Gen: i % 8, Fact: longFact(24), Node: i})
		p.Nodes = append(p.Nodes, node(api.FormInt, api.FormMost))
	}
	p.Main = 16
	p.Nodes = append(p.Nodes, bush(103, 16)...)
	return changedNodes(p, func(l []api.BindNode) []api.BindNode {
		// One more node makes them as many as there can be.
		last := len(l)
		l[last-1] = node(api.FormOut, 0, last)
		return append(l, node(api.FormInt, -api.FormMost))
	})
}

func changedNodes(p api.BindProg, by func([]api.BindNode) []api.BindNode) api.BindProg {
	p.Nodes = by(p.Nodes)
	return p
}

// longFact is a fact of an even number of nodes about the first argument.
func longFact(nodes int) api.Fact {
	l := slices.Repeat([]api.Fact{is(0, 0)}, nodes/2)
	l[0] = not(l[0])
	for len(l) > 1 {
		l = append(l[2:], and(l[0], l[1]))
	}
	return l[0]
}

// ringed is a list of parents the last class of which has no linear order.
func ringed() [][]int { return [][]int{nil, {3}, {3}, {4, 5}, {5, 4}, {6, 7}} }

func classesOf(parents [][]int) []api.BindClass {
	var l []api.BindClass
	for _, p := range parents {
		l = append(l, api.BindClass{Parents: p})
	}
	return l
}
