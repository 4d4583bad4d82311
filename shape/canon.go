package shape

import "consort/api"

// Canon returns a program with its bound names chosen anew.
func Canon(p api.FormProg) (api.FormProg, api.Errno) {
	if e := Check(p); e != api.OK {
		return api.FormProg{}, e
	}
	return api.FormProg{
		Classes: each(p.Classes, copyClass),
		Methods: each(p.Methods, canonMethod),
		Main:    newChooser().canon(p.Main, nil),
	}, api.OK
}

func copyClass(c api.FormClass) api.FormClass {
	c.Parents, c.Slots, c.Inits = copied(c.Parents), copied(c.Slots), copied(c.Inits)
	return c
}

func canonMethod(m api.FormMethod) api.FormMethod {
	c := newChooser()
	var params *bound
	for _, name := range m.Params {
		params = &bound{params, name, c.choose()}
	}
	now := func(name string) string {
		s, _ := params.find(name)
		return s
	}
	m.Params = each(m.Params, now)
	m.Fact = renameFact(m.Fact, now)
	m.Body = c.canon(m.Body, params)
	return m
}

// renameFact copies a fact, with other names of its parameters.
func renameFact(f api.FormFact, now func(name string) string) api.FormFact {
	f.Name, f.Path = now(f.Name), copied(f.Path)
	f.Kids = each(f.Kids, func(kid api.FormFact) api.FormFact { return renameFact(kid, now) })
	return f
}

// chooser chooses names, each once.
type chooser struct{ chosen map[string]bool }

func newChooser() chooser { return chooser{map[string]bool{}} }

func (c chooser) choose() string {
	name := firstName(c.chosen)
	c.chosen[name] = true
	return name
}

func (c chooser) canon(e api.FormExp, params *bound) api.FormExp {
	let := func(api.FormExp, *bound) string { return c.choose() }
	return changer{let: let, free: nameExp}.change(e, params)
}

// Alike returns whether two programs are the same up to bound names.
func Alike(p, q api.FormProg) (bool, api.Errno) {
	a, e := Canon(p)
	if e != api.OK {
		return false, e
	}
	b, e := Canon(q)
	if e != api.OK {
		return false, e
	}
	return same(a.Classes, b.Classes, sameClass) &&
		same(a.Methods, b.Methods, sameMethod) &&
		sameExp(a.Main, b.Main), api.OK
}

func sameClass(a, b api.FormClass) bool {
	return a.Name == b.Name &&
		same(a.Parents, b.Parents, equal) &&
		same(a.Slots, b.Slots, equal) &&
		same(a.Inits, b.Inits, equal)
}

func sameMethod(a, b api.FormMethod) bool {
	return a.Kind == b.Kind && a.Name == b.Name &&
		same(a.Params, b.Params, equal) &&
		sameFact(a.Fact, b.Fact) && sameExp(a.Body, b.Body)
}

func sameFact(a, b api.FormFact) bool {
	return a.Op == b.Op && a.Name == b.Name && a.Class == b.Class && a.N == b.N &&
		same(a.Path, b.Path, equal) && same(a.Kids, b.Kids, sameFact)
}

func sameExp(a, b api.FormExp) bool {
	return a.Op == b.Op && a.N == b.N && a.Text == b.Text && same(a.Kids, b.Kids, sameExp)
}
