package bind_test

import (
	"math/rand"
	"reflect"
	"slices"

	"consort/api"
	"consort/shape"
)

// maker makes programs that are formed.
type maker struct {
	*rand.Rand
	classes, slots []string
	has            map[string][]string // of each class
	gens           map[string]int      // of each function how many arguments it has
}

// anyNames are some names, all different, in any order.
func anyNames(r *rand.Rand, count int) []string {
	l := []string{"a", "b", "c", "d", "e", "f", "g", "h", "i", "j", "k", "x", "y", "z", "aa", "ab", "show", "as", "o", "zz"}
	r.Shuffle(len(l), func(i, j int) { l[i], l[j] = l[j], l[i] })
	return l[:count]
}

// anyProg is a program that is formed (layer 1); it need not be bound.
func anyProg(r *rand.Rand) api.FormProg {
	for {
		p := tryProg(r)
		if shape.Check(p) == api.OK {
			return p
		}
	}
}

func tryProg(r *rand.Rand) api.FormProg {
	m := maker{Rand: r, has: map[string][]string{}, gens: map[string]int{}}
	var p api.FormProg
	names, slots := anyNames(r, r.Intn(7)), anyNames(r, 20)
	for _, name := range names {
		own := r.Intn(3)
		p.Classes = append(p.Classes, m.class(name, slots[:own]))
		slots = slots[own:]
	}
	for _, name := range anyNames(r, 1+r.Intn(4)) {
		m.gens[name] = 1 + r.Intn(3)
	}
	for range r.Intn(5) {
		p.Methods = append(p.Methods, m.method())
	}
	p.Main = m.exp(1+r.Intn(5), nil, false)
	return p
}

func (m *maker) class(name string, slots []string) api.FormClass {
	c := api.FormClass{Name: name, Slots: slices.Clone(slots)}
	has := slices.Clone(slots)
	for range m.Intn(4) {
		if len(m.classes) == 0 {
			break
		}
		parent := m.classes[m.Intn(len(m.classes))]
		if !slices.Contains(c.Parents, parent) {
			c.Parents, has = append(c.Parents, parent), append(has, m.has[parent]...)
		}
	}
	slices.Sort(has)
	has = slices.Compact(has)
	for _, i := range m.Perm(len(has)) {
		if m.Intn(2) == 0 {
			c.Inits = append(c.Inits, api.FormInit{Slot: has[i], N: m.Intn(5) - 2})
		}
	}
	m.classes, m.slots, m.has[name] = append(m.classes, name), append(m.slots, slots...), has
	return c
}

func (m *maker) one(l []string) string { return l[m.Intn(len(l))] }

func (m *maker) gen() string {
	l := make([]string, 0, len(m.gens))
	for name := range m.gens {
		l = append(l, name)
	}
	slices.Sort(l)
	return m.one(l)
}

func (m *maker) method() api.FormMethod {
	name := m.gen()
	f := api.FormMethod{Kind: api.FormKind(1 + m.Intn(4)), Name: name, Params: anyNames(m.Rand, m.gens[name])}
	f.Fact = m.fact(m.Intn(5), f.Params)
	f.Body = m.exp(1+m.Intn(5), f.Params, f.Kind == api.FormPrimary || f.Kind == api.FormAround)
	return f
}

func (m *maker) fact(depth int, params []string) api.FormFact {
	op := api.FactOp(1 + m.Intn(4))
	if depth > 0 {
		op = api.FactNot + api.FactOp(m.Intn(3))
	}
	f := api.FormFact{Op: op}
	if api.FactIs <= op && op <= api.FactSame {
		f.Name = m.one(params)
		for len(m.slots) > 0 && len(f.Path) < m.Intn(3) {
			f.Path = append(f.Path, m.one(m.slots))
		}
	}
	switch op {
	case api.FactIs:
		f.Class = m.one(append([]string{"any", "int", "none"}, m.classes...))
	case api.FactLess, api.FactSame:
		f.N = m.Intn(9) - 4
	case api.FactNot:
		f.Kids = []api.FormFact{m.fact(depth-1, params)}
	case api.FactAnd, api.FactOr:
		f.Kids = []api.FormFact{m.fact(depth-1, params), m.fact(depth-1, params)}
	}
	return f
}

// exp is an expression in which some names are bound.
func (m *maker) exp(depth int, names []string, next bool) api.FormExp {
	e := api.FormExp{Op: m.op(depth, names, next)}
	kids := map[api.FormOp]int{api.FormSlot: 1, api.FormTurn: 1, api.FormOut: 1, api.FormSet: 2, api.FormIf: 3,
		api.FormSeq: 2, api.FormAdd: 2, api.FormSub: 2, api.FormMul: 2, api.FormLess: 2, api.FormSame: 2}[e.Op]
	switch e.Op {
	case api.FormInt:
		e.N = m.Intn(9) - 4
	case api.FormName:
		e.Text = m.one(names)
	case api.FormSlot, api.FormSet:
		e.Text = m.one(m.slots)
	case api.FormNew, api.FormTurn:
		e.Text = m.one(m.classes)
	case api.FormCall:
		e.Text = m.gen()
		kids = m.gens[e.Text]
	case api.FormLet:
		// Names that are bound already are taken as often as others.
		e.Text = m.one(append(anyNames(m.Rand, 1+len(names)), names...))
		e.Kids = append(e.Kids, m.exp(depth-1, names, next))
		names, kids = append(slices.Clone(names), e.Text), 1
	}
	for range kids {
		e.Kids = append(e.Kids, m.exp(depth-1, names, next))
	}
	return e
}

// op is a kind of expressions that can be made here.
func (m *maker) op(depth int, names []string, next bool) api.FormOp {
	for {
		op := api.FormOp(1 + m.Intn(18))
		if m.Intn(3) == 0 {
			op = []api.FormOp{api.FormLet, api.FormName}[m.Intn(2)]
		}
		leaf := op == api.FormInt || op == api.FormNone || op == api.FormName || op == api.FormNew || op == api.FormNext
		switch {
		case !leaf && depth <= 1,
			op == api.FormName && len(names) == 0,
			op == api.FormNext && !next,
			(op == api.FormSlot || op == api.FormSet) && len(m.slots) == 0,
			(op == api.FormNew || op == api.FormTurn) && len(m.classes) == 0:
			continue
		}
		return op
	}
}

// shuffled is a formed program by numbers whose functions and nodes are
// numbered in any way; some functions may be there that nobody calls.
func shuffled(r *rand.Rand, p api.BindProg) api.BindProg {
	p = clone(p)
	for len(p.Gens) < api.FormGens && r.Intn(3) == 0 {
		p.Gens = append(p.Gens, 1+r.Intn(3))
	}
	gens, nodes := r.Perm(len(p.Gens)), r.Perm(len(p.Nodes))
	q := clone(p)
	for i, gen := range gens {
		q.Gens[gen] = p.Gens[i]
	}
	for i, m := range p.Methods {
		q.Methods[i].Gen, q.Methods[i].Node = gens[m.Gen], nodes[m.Node]
	}
	for i, n := range p.Nodes {
		for k, kid := range n.Kids {
			n.Kids[k] = nodes[kid]
		}
		if n.Op == api.FormCall {
			n.N = gens[n.N]
		}
		q.Nodes[nodes[i]] = n
	}
	q.Main = nodes[p.Main]
	return q
}

// bound is a formed program by numbers, in order or not.
func bound(r *rand.Rand) api.BindProg {
	for {
		p := toldBind(anyProg(r))
		if r.Intn(3) > 0 {
			p = shuffled(r, p)
		}
		if toldFormed(p) {
			return p
		}
	}
}

// Anything that consists of structures, lists, numbers and strings.

// clone is a copy that shares nothing.
func clone[T any](x T) T {
	v := reflect.ValueOf(&x).Elem()
	cloneLists(v)
	return x
}

func cloneLists(v reflect.Value) {
	switch v.Kind() {
	case reflect.Struct:
		for i := range v.NumField() {
			cloneLists(v.Field(i))
		}
	case reflect.Slice:
		if v.IsNil() {
			return
		}
		l := reflect.MakeSlice(v.Type(), v.Len(), v.Len())
		reflect.Copy(l, v)
		v.Set(l)
		for i := range v.Len() {
			cloneLists(v.Index(i))
		}
	}
}

// leaves are all numbers and lists that something consists of; they can be set.
func leaves(v reflect.Value) []reflect.Value {
	var l []reflect.Value
	switch v.Kind() {
	case reflect.Struct:
		for i := range v.NumField() {
			l = append(l, leaves(v.Field(i))...)
		}
	case reflect.Slice:
		l = append(l, v)
		for i := range v.Len() {
			l = append(l, leaves(v.Index(i))...)
		}
	case reflect.Int:
		l = append(l, v)
	}
	return l
}

// broken is something that was changed at one place.
func broken[T any](r *rand.Rand, x T) T {
	x = clone(x)
	l := leaves(reflect.ValueOf(&x).Elem())
	v := l[r.Intn(len(l))]
	if v.Kind() == reflect.Int {
		v.SetInt(int64(odd(r, int(v.Int()))))
		return x
	}
	switch i := r.Intn(v.Len() + 1); {
	case i == v.Len() || r.Intn(3) == 0:
		// One element more: a zero one, or one that is there once more.
		more := reflect.Zero(v.Type().Elem())
		if v.Len() > 0 && r.Intn(2) == 0 {
			more = v.Index(r.Intn(v.Len()))
		}
		v.Set(reflect.Append(v, more))
	case r.Intn(2) == 0:
		v.Set(reflect.AppendSlice(v.Slice3(0, i, i), v.Slice(i+1, v.Len())))
	default:
		swap := reflect.Swapper(v.Interface())
		swap(i, r.Intn(v.Len()))
	}
	return x
}

// odd is another number in place of one.
func odd(r *rand.Rand, n int) int {
	switch r.Intn(5) {
	case 0:
		return n + 1
	case 1:
		return n - 1
	case 2:
		return r.Intn(8)
	case 3:
		return r.Intn(125)
	}
	return []int{-1 << 63, 1<<63 - 1, -1, 0, 1 << 32, api.FormMost, api.FormMost + 1, -api.FormMost - 1}[r.Intn(8)]
}

// span is the memory of a list.
type span struct{ from, to uintptr }

// spans are the memories of all lists that something consists of.
func spans(x any) []span {
	var l []span
	v := reflect.New(reflect.TypeOf(x)).Elem()
	v.Set(reflect.ValueOf(x))
	for _, v := range leaves(v) {
		if v.Kind() == reflect.Slice && v.Cap() > 0 {
			from := v.Pointer()
			l = append(l, span{from, from + uintptr(v.Cap())*v.Type().Elem().Size()})
		}
	}
	return l
}

// apart says whether no two of some memories have anything in common.
func apart(l []span) bool {
	slices.SortFunc(l, func(a, b span) int {
		if a.from < b.from {
			return -1
		}
		return 1
	})
	for i := range l {
		if i > 0 && l[i-1].to > l[i].from {
			return false
		}
	}
	return true
}
