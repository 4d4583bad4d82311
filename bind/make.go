package bind

import (
	"maps"

	"consort/api"
	"consort/shape"
)

// maker makes the program by numbers of a program: what is made so far, and
// the numbers of names.
type maker struct {
	api.BindProg
	classes, slots, gens map[string]int
}

// environment is the maker of what stands where names have places.
type environment struct {
	*maker
	places map[string]int // of each name that is bound the place of the innermost one
	size   int
}

// newMaker returns the maker for a program that is formed.
func newMaker(p api.FormProg) *maker {
	classes := each(p.Classes, func(c api.FormClass) string { return c.Name })
	slots, _ := shape.Slots(p)
	gens, _ := shape.Gens(p)
	m := &maker{
		classes: numbers(append(metaClasses(), classes...)),
		slots:   numbers(slots),
		gens:    numbers(gens),
	}
	m.Slots = len(slots)
	m.Gens = append(m.Gens, make([]int, len(gens))...)
	return m
}

// metaClasses are the names of the classes that each program has.
func metaClasses() []string { return []string{"any", "int", "none"} }

func numbers(names []string) map[string]int {
	m := map[string]int{}
	for i, name := range names {
		m[name] = i
	}
	return m
}

// in returns a function that looks names up in a map.
func in(numbers map[string]int) func(string) int {
	return func(name string) int { return numbers[name] }
}

func (m *maker) addClasses(l []api.FormClass) {
	m.Classes = each(l, func(c api.FormClass) api.BindClass {
		return api.BindClass{
			Parents: each(c.Parents, in(m.classes)),
			Slots:   each(c.Slots, in(m.slots)),
			Inits: each(c.Inits, func(init api.FormInit) api.BindInit {
				return api.BindInit{Slot: m.slots[init.Slot], N: init.N}
			}),
		}
	})
}

func (m *maker) addMethod(f api.FormMethod) {
	env := m.around(f.Params)
	made := api.BindMethod{Kind: f.Kind, Gen: m.gens[f.Name], Fact: env.fact(f.Fact), Node: env.add(f.Body)}
	m.Gens[made.Gen] = len(f.Params)
	m.Methods = append(m.Methods, made)
}

// around returns the environment of a body with some parameters.
func (m *maker) around(params []string) environment {
	return environment{m, numbers(params), len(params)}
}

// with returns the environment with one more name, which hides those that are
// called likewise.
func (e environment) with(name string) environment {
	places := maps.Clone(e.places)
	places[name] = e.size
	return environment{e.maker, places, e.size + 1}
}

func (e environment) fact(f api.FormFact) api.Fact {
	return api.Fact{
		Op:    f.Op,
		Arg:   e.places[f.Name],
		Path:  each(f.Path, in(e.slots)),
		Class: e.classes[f.Class],
		N:     f.N,
		Kids:  each(f.Kids, e.fact),
	}
}

// factNodes returns how many nodes a fact has.
func factNodes(f api.FormFact) int {
	n := 1
	for _, kid := range f.Kids {
		n += factNodes(kid)
	}
	return n
}

// add puts the nodes of an expression behind those of the program, and returns
// the number of the first one.
func (e environment) add(x api.FormExp) int {
	at := len(e.Nodes)
	e.Nodes = append(e.Nodes, api.BindNode{Op: x.Op, N: e.number(x)})
	var kids []int
	for i, kid := range x.Kids {
		inner := e
		if x.Op == api.FormLet && i == 1 {
			inner = e.with(x.Text)
		}
		kids = append(kids, inner.add(kid))
	}
	e.Nodes[at].Kids = kids
	if x.Op == api.FormCall {
		e.Gens[e.gens[x.Text]] = len(kids)
	}
	return at
}

// number returns the number of the node of an expression.
func (e environment) number(x api.FormExp) int {
	switch hasOf(x.Op).(type) {
	case integer:
		return x.N
	case place:
		return e.places[x.Text]
	case slot:
		return e.slots[x.Text]
	case gen:
		return e.gens[x.Text]
	case class:
		return e.classes[x.Text]
	}
	return 0
}
