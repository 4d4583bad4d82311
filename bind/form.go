package bind

import (
	"slices"

	"consort/api"
	"consort/shape"
)

// former makes the program for one by numbers. Classes, slots, functions and
// the places of environments have the first names by their numbers.
type former struct {
	*program
	names, classes []string
}

// form returns the program for one by numbers, whose bound names are not
// chosen anew yet.
func (p *program) form() api.FormProg {
	names := firstNames(api.FormClasses * api.FormSlots)
	f := former{p, names, append(metaClasses(), names...)}
	var out api.FormProg
	for i, c := range p.Classes {
		out.Classes = append(out.Classes, f.class(f.names[i], c))
	}
	out.Methods = each(p.Methods, f.method)
	out.Main = f.exp(p.Main)
	return out
}

// firstNames returns so many names, from the first one on.
func firstNames(count int) []string {
	var l []string
	for len(l) < count {
		l = append(l, shape.Fresh(l))
	}
	return l
}

func (f former) name(n int) string { return f.names[n] }

func (f former) className(class int) string { return f.classes[class] }

func (f former) class(name string, c api.BindClass) api.FormClass {
	return api.FormClass{
		Name:    name,
		Parents: each(c.Parents, f.className),
		Slots:   each(c.Slots, f.name),
		Inits: each(c.Inits, func(init api.BindInit) api.FormInit {
			return api.FormInit{Slot: f.name(init.Slot), N: init.N}
		}),
	}
}

func (f former) method(m api.BindMethod) api.FormMethod {
	return api.FormMethod{
		Kind:   m.Kind,
		Name:   f.name(m.Gen),
		Params: slices.Clone(f.names[:f.Gens[m.Gen]]),
		Fact:   f.fact(m.Fact),
		Body:   f.exp(m.Node),
	}
}

func (f former) fact(x api.Fact) api.FormFact {
	out := api.FormFact{Op: x.Op, Path: each(x.Path, f.name), N: x.N, Kids: each(x.Kids, f.fact)}
	switch x.Op {
	case api.FactIs:
		out.Name, out.Class = f.name(x.Arg), f.className(x.Class)
	case api.FactLess, api.FactSame:
		out.Name = f.name(x.Arg)
	}
	return out
}

func (f former) exp(at int) api.FormExp {
	n := f.Nodes[at]
	out := api.FormExp{Op: n.Op, Kids: each(n.Kids, f.exp)}
	switch hasOf(n.Op).(type) {
	case integer:
		out.N = n.N
	case place, slot, gen:
		out.Text = f.name(n.N)
	case class:
		out.Text = f.className(n.N)
	case binding:
		// The place that it adds stands behind those of its own environment.
		out.Text = f.name(f.sizes[at])
	}
	return out
}

// same reports whether a program is the one of the program for it. Functions
// and nodes may be numbered otherwise there; all the rest is as it was.
func same(p, q api.BindProg) bool {
	sameMethod := func(m, n api.BindMethod) bool { return m.Gen == n.Gen && m.Node == n.Node }
	sameNode := func(m, n api.BindNode) bool {
		return m.Op == n.Op && m.N == n.N && slices.Equal(m.Kids, n.Kids)
	}
	return slices.Equal(p.Gens, q.Gens) &&
		slices.EqualFunc(p.Methods, q.Methods, sameMethod) &&
		slices.EqualFunc(p.Nodes, q.Nodes, sameNode) &&
		p.Main == q.Main
}
