package rank_test

import (
	"math/rand"
	"slices"

	"consort/api"
	"consort/bind"
)

// maker makes formed programs at random, and calls of their functions.
type maker struct{ *rand.Rand }

// classes makes a program that has nothing but some classes and slots.
func (m maker) classes() api.BindProg {
	for {
		p := with(api.BindProg{})
		for range m.Intn(6) {
			p = m.oneClassMore(p)
		}
		if bind.Check(p) == api.OK {
			return p
		}
	}
}

// oneClassMore adds a class behind those of a program.
func (m maker) oneClassMore(p api.BindProg) api.BindProg {
	var c api.BindClass
	for _, i := range m.Perm(len(p.Classes))[:min(len(p.Classes), m.Intn(3))] {
		c.Parents = append(c.Parents, 3+i)
	}
	for range m.Intn(2) {
		c.Slots, p.Slots = append(c.Slots, p.Slots), p.Slots+1
	}
	p.Classes = append(slices.Clone(p.Classes), c)
	return p
}

// prog makes a program with methods of one or two functions.
func (m maker) prog() api.BindProg {
	p := m.classes()
	for range 1 + m.Intn(2) {
		p.Gens = append(p.Gens, 1+m.Intn(3))
	}
	return with(p, m.methods(p, m.Intn(api.FormMethods+1))...)
}

// methods makes methods of which many imply others.
func (m maker) methods(p api.BindProg, count int) []api.BindMethod {
	pools := make([][]api.Fact, len(p.Gens))
	var l []api.BindMethod
	most := api.FormKind(m.Intn(5)) // the kind of most of them, or 0 for any
	for range count {
		gen := m.Intn(len(p.Gens))
		f := m.fact(p, p.Gens[gen], pools[gen])
		pools[gen] = append(pools[gen], f)
		kind := api.FormPrimary
		switch {
		case m.Intn(4) == 0:
		case most > 0:
			kind = most
		default:
			kind = api.FormKind(1 + m.Intn(4))
		}
		l = append(l, method(kind, gen, f))
	}
	return l
}

// fact makes a fact, out of one of some others as often as not.
func (m maker) fact(p api.BindProg, args int, pool []api.Fact) api.Fact {
	if len(pool) == 0 || m.Intn(4) == 0 {
		return m.literal(p, args)
	}
	f := pool[len(pool)-1]
	if m.Intn(2) == 0 {
		f = pool[m.Intn(len(pool))]
	}
	if size(f) > 6 {
		return f
	}
	switch g := m.literal(p, args); m.Intn(8) {
	case 0:
		return or(f, g)
	case 1:
		return not(f)
	case 2:
		return and(f, f)
	case 3:
		return or(f, and(g, f))
	case 4:
		return f
	default:
		return and(g, f)
	}
}

func size(f api.Fact) int {
	n := 1
	for _, kid := range f.Kids {
		n += size(kid)
	}
	return n
}

func (m maker) literal(p api.BindProg, args int) api.Fact {
	arg := m.Intn(args)
	var path []int
	for p.Slots > 0 && len(path) < m.Intn(3) {
		path = append(path, m.Intn(p.Slots))
	}
	switch m.Intn(8) {
	case 0:
		return yes()
	case 1, 2:
		return less(arg, m.Intn(4), path...)
	case 3:
		return same(arg, m.Intn(4), path...)
	}
	return is(arg, m.Intn(3+len(p.Classes)), path...)
}

// call makes objects and so many arguments.
func (m maker) call(p api.BindProg, count int) ([]api.MeanThing, []api.MeanVal) {
	var objs []api.MeanThing
	for range 5 {
		if len(p.Classes) > 0 {
			objs = append(objs, thing(3+m.Intn(len(p.Classes))))
		}
	}
	for i := range objs {
		has, _ := bind.Has(p, objs[i].Class)
		for range has {
			objs[i].Slots = append(objs[i].Slots, m.val(len(objs)))
		}
	}
	var args []api.MeanVal
	for range count {
		args = append(args, m.val(len(objs)))
	}
	return objs, args
}

func (m maker) val(objs int) api.MeanVal {
	switch {
	case m.Intn(10) == 0:
		return none()
	case objs == 0 || m.Intn(3) == 0:
		return num(m.Intn(5) - 1)
	}
	return obj(m.Intn(objs))
}

// some are some of the methods of a function, in any sequence, all of one kind
// if it is not 0.
func (m maker) some(p api.BindProg, gen int, kind api.FormKind) []int {
	var l []int
	for _, i := range m.Perm(len(p.Methods)) {
		if p.Methods[i].Gen == gen && (kind == 0 || p.Methods[i].Kind == kind) && m.Intn(5) > 0 {
			l = append(l, i)
		}
	}
	return l
}

// shuffled is a list in another sequence.
func (m maker) shuffled(l []int) []int {
	l = slices.Clone(l)
	m.Shuffle(len(l), func(i, j int) { l[i], l[j] = l[j], l[i] })
	return l
}

// grown is a formed program with more classes, slots and methods, and the
// numbers in it of those methods that were there.
func (m maker) grown(p api.BindProg) (api.BindProg, []int) {
	for {
		q := m.withSlots(p)
		for range m.Intn(4) {
			q = m.oneClassMore(q)
		}
		q, numbers := m.withMore(q)
		if bind.Check(q) == api.OK {
			return q, numbers
		}
	}
}

// withSlots adds slots to classes of a program: as slots are numbered class by
// class, those that were there get other numbers.
func (m maker) withSlots(p api.BindProg) api.BindProg {
	numbers := make([]int, p.Slots)
	p.Classes, p.Slots = slices.Clone(p.Classes), 0
	for i, c := range p.Classes {
		var slots []int
		for _, old := range c.Slots {
			if m.Intn(2) == 0 {
				slots, p.Slots = append(slots, p.Slots), p.Slots+1
			}
			numbers[old] = p.Slots
			slots, p.Slots = append(slots, p.Slots), p.Slots+1
		}
		p.Classes[i].Slots = slots
	}
	p.Methods = slices.Clone(p.Methods)
	for i := range p.Methods {
		p.Methods[i].Fact = renumbered(p.Methods[i].Fact, numbers)
	}
	return p
}

func renumbered(f api.Fact, slots []int) api.Fact {
	f.Path, f.Kids = slices.Clone(f.Path), slices.Clone(f.Kids)
	for i, slot := range f.Path {
		f.Path[i] = slots[slot]
	}
	for i, kid := range f.Kids {
		f.Kids[i] = renumbered(kid, slots)
	}
	return f
}

// withMore adds methods anywhere among those of a program.
func (m maker) withMore(p api.BindProg) (api.BindProg, []int) {
	more := m.methods(p, m.Intn(api.FormMethods-len(p.Methods)+1))
	var numbers []int
	var all []api.BindMethod
	for _, old := range p.Methods {
		for len(more) > 0 && m.Intn(3) == 0 {
			all, more = append(all, more[0]), more[1:]
		}
		numbers = append(numbers, len(all))
		all = append(all, old)
	}
	return with(p, append(all, more...)...), numbers
}
