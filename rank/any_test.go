package rank_test

import (
	"fmt"
	"math/rand"
	"reflect"
	"slices"
	"testing"

	"consort/api"
	"consort/rank"
)

// given are arguments of all functions.
type given struct {
	p    api.BindProg
	m, n int
	gen  int
	kind api.FormKind
	objs []api.MeanThing
	args []api.MeanVal
	l    []int
}

// results are what all functions return for some arguments, each with its error.
func results(x given) [][]any {
	is, e1 := rank.Ahead(x.p, x.m, x.n)
	order, e2 := rank.Order(x.p, x.gen, x.kind)
	twins, e3 := rank.Twins(x.p, x.gen)
	applies, e4 := rank.Applies(x.p, x.objs, x.gen, x.args)
	chain, torn, e5 := rank.Chain(x.p, x.l)
	befores, e6 := rank.Befores(x.p, x.l)
	plan, e7 := rank.Plan(x.p, x.l)
	call, e8 := rank.Call(x.p, x.objs, x.gen, x.args)
	return [][]any{{is, e1}, {order, e2}, {twins, e3}, {applies, e4}, {chain, torn, e5}, {befores, e6}, {plan, e7}, {call, e8}}
}

// any makes arguments, formed or not.
func (m maker) any() given {
	x := given{p: m.prog(), m: m.Intn(5), n: m.Intn(5), kind: api.FormKind(1 + m.Intn(4))}
	x.gen = m.Intn(len(x.p.Gens))
	x.objs, x.args = m.call(x.p, x.p.Gens[x.gen])
	x.l = m.some(x.p, x.gen, api.FormKind(m.Intn(5)))
	switch m.Intn(10) {
	case 0:
		x.p = broken(m.Rand, x.p)
	case 1:
		x.objs = broken(m.Rand, x.objs)
	case 2:
		x.args = broken(m.Rand, x.args)
	case 3, 4:
		x.l = broken(m.Rand, x.l)
	case 5:
		x.m, x.n, x.gen, x.kind = odd(m.Rand, x.m), odd(m.Rand, x.n), odd(m.Rand, x.gen), api.FormKind(odd(m.Rand, int(x.kind)))
	}
	return x
}

// TestAnyArguments asks with anything: arguments stay as they are, the results
// are those that the same arguments have again, they share no memory, and with
// an error there are none.
func TestAnyArguments(t *testing.T) {
	m := maker{rand.New(rand.NewSource(68))}
	met := map[api.Errno]int{}
	for range 3000 {
		x := m.any()
		args := []any{x.p, x.objs, x.args, x.l}
		before := fmt.Sprint(x)
		all := results(x)
		want(t, "the arguments", fmt.Sprint(x), before)
		y := x
		y.p, y.objs, y.args, y.l = clone(x.p), clone(x.objs), clone(x.args), clone(x.l)
		wantText(t, "the results again", results(y), all)
		wantText(t, "the same results again", results(x), all)
		var given, memory []span
		for _, a := range args {
			given = append(given, spans(a)...)
		}
		for _, l := range all {
			e := l[len(l)-1].(api.Errno)
			met[e]++
			for _, r := range l[:len(l)-1] {
				memory = append(memory, spans(r)...)
				if e != api.OK && !reflect.ValueOf(r).IsZero() {
					t.Errorf("%v with the error %d", r, e)
				}
			}
		}
		if !apart(given, memory) {
			t.Errorf("results share memory with arguments or with each other")
		}
		if t.Failed() {
			t.Fatalf("of %v", x)
		}
	}
	if met[api.OK] < 10000 || met[api.ErrArg] < 5000 || met[api.ErrRule] < 500 || met[api.ErrNone] < 1000 {
		t.Errorf("too few of an error: %v", met)
	}
}

// TestResultsShareNothing: a list with room behind it stays what it is, there too.
func TestResultsShareNothing(t *testing.T) {
	p := with(mixed(), mixed().Methods[:12]...)
	for _, l := range [][]int{list(1, 0), list(0, 1), list(4, 3), list(1, 2), list(0, 3, 6, 9), list(2)} {
		roomy := append(make([]int, 0, 20), l...)
		chain, _, _ := rank.Chain(p, roomy)
		befores, _ := rank.Befores(p, roomy)
		plan, _ := rank.Plan(p, roomy)
		for _, x := range [][]int{chain, befores, plan.Arounds, plan.Befores, plan.Primaries, plan.Afters} {
			x = x[:cap(x)]
			for i := range x {
				x[i] = -7
			}
		}
		wantText(t, "a list with room", roomy[:20], append(slices.Clone(l), make([]int, 20-len(l))...))
	}
}

// TestEndlessArguments has lists of a million elements, and facts without an end.
func TestEndlessArguments(t *testing.T) {
	const many = 1 << 20
	ring := make([]api.Fact, 1)
	ring[0] = api.Fact{Op: api.FactNot, Kids: ring}
	shared := yes()
	for range 60 {
		shared = or(shared, shared)
	}
	for i, p := range []api.BindProg{
		with(api.BindProg{Gens: list(1)}, method(api.FormPrimary, 0, ring[0])),
		with(api.BindProg{Gens: list(1)}, method(api.FormPrimary, 0, shared)),
		with(api.BindProg{Gens: list(1)}, method(api.FormPrimary, 0, is(0, 0, make([]int, many)...))),
		with(api.BindProg{Gens: list(1), Classes: make([]api.BindClass, many)}),
		with(api.BindProg{Gens: slices.Repeat(list(1), many)}),
		{Gens: list(1), Methods: make([]api.BindMethod, many), Nodes: make([]api.BindNode, many)},
		{Gens: list(1), Nodes: []api.BindNode{{Op: api.FormOut, Kids: list(0)}}},
		{},
	} {
		wantRefused(t, i, "an endless program", p, api.ErrArg)
	}
	p := with(api.BindProg{Gens: list(1), Classes: make([]api.BindClass, 1)}, method(api.FormPrimary, 0, yes()))
	upward := make([]int, many)
	for i := range upward {
		upward[i] = i
	}
	endless := []given{
		{objs: make([]api.MeanThing, many), args: vals(num(1))},
		{objs: []api.MeanThing{thing(3, make([]api.MeanVal, many)...)}, args: vals(num(1))},
		{args: slices.Repeat(vals(num(1)), many)},
	}
	for _, x := range endless {
		x.p, x.kind, x.l = p, api.FormPrimary, upward
		wanted := []api.Errno{api.OK, api.OK, api.OK, api.ErrArg, api.ErrArg, api.ErrArg, api.ErrArg, api.ErrArg}
		for i, l := range results(x) {
			want(t, fmt.Sprint("the function ", i, " of endless arguments"), l[len(l)-1].(api.Errno), wanted[i])
		}
	}
}

// Anything that consists of structures, lists and numbers.

// clone is a copy that shares nothing.
func clone[T any](x T) T {
	cloneLists(reflect.ValueOf(&x).Elem())
	return x
}

func cloneLists(v reflect.Value) {
	switch v.Kind() {
	case reflect.Struct:
		for i := range v.NumField() {
			cloneLists(v.Field(i))
		}
	case reflect.Slice:
		if v.IsNil() {
			return
		}
		l := reflect.MakeSlice(v.Type(), v.Len(), v.Len())
		reflect.Copy(l, v)
		v.Set(l)
		for i := range v.Len() {
			cloneLists(v.Index(i))
		}
	}
}

// leaves are all numbers and lists that something consists of; they can be set.
func leaves(v reflect.Value) []reflect.Value {
	var l []reflect.Value
	switch v.Kind() {
	case reflect.Struct:
		for i := range v.NumField() {
			l = append(l, leaves(v.Field(i))...)
		}
	case reflect.Slice:
		l = append(l, v)
		for i := range v.Len() {
			l = append(l, leaves(v.Index(i))...)
		}
	case reflect.Int:
		l = append(l, v)
	}
	return l
}

// broken is something that was changed at one place.
func broken[T any](r *rand.Rand, x T) T {
	x = clone(x)
	l := leaves(reflect.ValueOf(&x).Elem())
	v := l[r.Intn(len(l))]
	if v.Kind() == reflect.Int {
		v.SetInt(int64(odd(r, int(v.Int()))))
		return x
	}
	switch i := r.Intn(v.Len() + 1); {
	case i == v.Len() || r.Intn(3) == 0:
		// One element more: a zero one, or one that is there once more.
		more := reflect.Zero(v.Type().Elem())
		if v.Len() > 0 && r.Intn(2) == 0 {
			more = v.Index(r.Intn(v.Len()))
		}
		v.Set(reflect.Append(v, more))
	case r.Intn(2) == 0:
		v.Set(reflect.AppendSlice(v.Slice3(0, i, i), v.Slice(i+1, v.Len())))
	default:
		swap := reflect.Swapper(v.Interface())
		swap(i, r.Intn(v.Len()))
	}
	return x
}

// odd is another number in place of one.
func odd(r *rand.Rand, n int) int {
	switch r.Intn(4) {
	case 0:
		return n + 1
	case 1:
		return n - 1
	case 2:
		return r.Intn(20)
	}
	return []int{-1 << 63, 1<<63 - 1, -1, 0, 1 << 32, api.FormMost, api.FormMost + 1, -api.FormMost - 1}[r.Intn(8)]
}

// span is the memory of a list.
type span struct{ from, to uintptr }

// spans are the memories of all lists that something consists of.
func spans(x any) []span {
	var l []span
	v := reflect.New(reflect.TypeOf(x)).Elem()
	v.Set(reflect.ValueOf(x))
	for _, v := range leaves(v) {
		if v.Kind() == reflect.Slice && v.Cap() > 0 {
			from := v.Pointer()
			l = append(l, span{from, from + uintptr(v.Cap())*v.Type().Elem().Size()})
		}
	}
	return l
}

// apart says whether no memory of results has anything in common with another
// one, or with one of arguments.
func apart(arguments, results []span) bool {
	for i, r := range results {
		meets := func(s span) bool { return s.from < r.to && r.from < s.to }
		if slices.ContainsFunc(arguments, meets) || slices.ContainsFunc(results[:i], meets) {
			return false
		}
	}
	return true
}
