package read

import "consort/api"

// program reads a whole text.
func (r *reader) program() (p api.FormProg) {
	for r.sees("class") {
		p.Classes = append(p.Classes, r.class())
	}
	for r.sees("method", "before", "after", "around") {
		p.Methods = append(p.Methods, r.method())
	}
	p.Main = r.main()
	return p
}

func (r *reader) name() string { return r.need(anyName).Text }

func (r *reader) class() (c api.FormClass) {
	from := r.need("class").At
	c.Name = r.name()
	if r.reads(":") {
		c.Parents = list(r, r.name)
	}
	if r.sees("{") {
		c.Slots = inside(r, r.name, "{", "}")
	}
	if r.sees("[") {
		c.Inits = inside(r, r.init, "[", "]")
	}
	r.spots = append(r.spots, api.ReadSpot{From: from, To: r.behind})
	return c
}

func (r *reader) init() (i api.FormInit) {
	i.Slot = r.name()
	r.need("=")
	i.N = r.number()
	return i
}

func (r *reader) method() (m api.FormMethod) {
	kind := r.need("method", "before", "after", "around")
	m.Kind = methodKind(kind.Text)
	m.Name = r.name()
	m.Params = inside(r, r.name, "(", ")")
	fact := r.where()
	r.need("{")
	body := r.exp()
	r.need("}")
	r.spots = append(r.spots, api.ReadSpot{From: kind.At, To: r.behind})
	addSpots(r, fact)
	addSpots(r, body)
	m.Fact, m.Body = factOf(fact), expOf(body)
	return m
}

func methodKind(word string) api.FormKind {
	switch word {
	case "before":
		return api.FormBefore
	case "after":
		return api.FormAfter
	case "around":
		return api.FormAround
	}
	return api.FormPrimary
}

func (r *reader) main() api.FormExp {
	r.need("then")
	return r.whole()
}

// whole reads an expression that is no part of another one.
func (r *reader) whole() api.FormExp {
	n := r.exp()
	addSpots(r, n)
	return expOf(n)
}
