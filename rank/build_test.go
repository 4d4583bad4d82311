package rank_test

import (
	"fmt"
	"slices"
	"testing"

	"consort/api"
	"consort/bind"
	"consort/read"
)

func want[T comparable](t *testing.T, what string, got, want T) {
	t.Helper()
	if got != want {
		t.Errorf("%s: %v, not %v", what, got, want)
	}
}

// wantText holds anything against what it should be: nil and empty lists are
// the same in texts.
func wantText(t *testing.T, what string, got, want any) {
	t.Helper()
	if g, w := fmt.Sprint(got), fmt.Sprint(want); g != w {
		t.Errorf("%s: %s, not %s", what, g, w)
	}
}

// tuple is several results in one list.
func tuple(l ...any) []any { return l }

func list(l ...int) []int { return l }

// prog is the program by numbers of a source.
func prog(source string) api.BindProg {
	f, e := read.Parse(source)
	if e != api.OK {
		fault, _ := read.Fault(source)
		panic(fmt.Sprint(source, ": ", e, fault))
	}
	p, e := bind.Bind(f)
	if e != api.OK {
		panic(fmt.Sprint(source, ": ", e))
	}
	return p
}

const diamond = "class a class b : a class c : a class d : b, c "

// exampleP is the program P of the chapter.
func exampleP() api.BindProg {
	return prog(diamond + `
		method o(x) where x is a { 0 }
		method o(x) where x is b { 0 }
		method o(x) where x is c { 0 }
		before o(x) where true { 0 }
		before o(x) where x is b { 0 }
		after o(x) where x is a { 0 }
		after o(x) where x is b { 0 }
		then 0`)
}

// facts is a program whose methods, of one function with the arguments x, y
// and z, are of a kind and have these facts, one in each line.
func facts(kind string, classes string, lines ...string) api.BindProg {
	s := classes
	for _, fact := range lines {
		s += kind + " o(x, y, z) where " + fact + " { 0 } "
	}
	return prog(s + "then 0")
}

// with is a program with these methods in place of its own ones; the body of
// each is none, and Main is none.
func with(p api.BindProg, methods ...api.BindMethod) api.BindProg {
	p.Methods, p.Nodes = nil, nil
	for i, m := range methods {
		m.Node = i
		p.Methods = append(p.Methods, m)
	}
	p.Nodes, p.Main = slices.Repeat([]api.BindNode{{Op: api.FormNone}}, len(methods)+1), len(methods)
	return p
}

func method(kind api.FormKind, gen int, f api.Fact) api.BindMethod {
	return api.BindMethod{Kind: kind, Gen: gen, Fact: f}
}

// Facts.

func yes() api.Fact { return api.Fact{Op: api.FactTrue} }

func no() api.Fact { return not(yes()) }

func is(arg, class int, path ...int) api.Fact {
	return api.Fact{Op: api.FactIs, Arg: arg, Class: class, Path: path}
}

func less(arg, n int, path ...int) api.Fact {
	return api.Fact{Op: api.FactLess, Arg: arg, N: n, Path: path}
}

func same(arg, n int, path ...int) api.Fact {
	return api.Fact{Op: api.FactSame, Arg: arg, N: n, Path: path}
}

func not(f api.Fact) api.Fact { return api.Fact{Op: api.FactNot, Kids: []api.Fact{f}} }

func and(f, g api.Fact) api.Fact { return api.Fact{Op: api.FactAnd, Kids: []api.Fact{f, g}} }

func or(f, g api.Fact) api.Fact { return api.Fact{Op: api.FactOr, Kids: []api.Fact{f, g}} }

// bush puts facts together by an operator, with as little depth as can be.
func bush(two func(f, g api.Fact) api.Fact, facts ...api.Fact) api.Fact {
	if len(facts) == 1 {
		return facts[0]
	}
	middle := len(facts) / 2
	return two(bush(two, facts[:middle]...), bush(two, facts[middle:]...))
}

// Values.

func num(n int) api.MeanVal { return api.MeanVal{Kind: api.MeanInt, N: n} }

func none() api.MeanVal { return api.MeanVal{Kind: api.MeanNone} }

func obj(n int) api.MeanVal { return api.MeanVal{Kind: api.MeanObj, N: n} }

func vals(l ...api.MeanVal) []api.MeanVal { return l }

func thing(class int, slots ...api.MeanVal) api.MeanThing {
	return api.MeanThing{Class: class, Slots: slots}
}

// one is an object of a class without slots, as the only object.
func one(class int) []api.MeanThing { return []api.MeanThing{thing(class)} }
