package read

import "consort/api"

type factNode = node[api.FormFact]

// where reads the fact of a method; one that is not written stands where it
// would begin.
func (r *reader) where() *factNode {
	if !r.reads("where") {
		return made(r, r.behind, api.FormFact{Op: api.FactTrue})
	}
	return r.fact()
}

func (r *reader) fact() *factNode { return chain(r, r.both, joinedFact, "or") }

func (r *reader) both() *factNode { return chain(r, r.one, joinedFact, "and") }

func (r *reader) one() *factNode {
	if r.sees("(") {
		return bracketed(r, r.fact)
	}
	switch t := r.need("not", "true", anyName); t.Text {
	case "not":
		kid := r.one()
		return made(r, t.At, api.FormFact{Op: api.FactNot}, kid)
	case "true":
		return made(r, t.At, api.FormFact{Op: api.FactTrue})
	default:
		f := api.FormFact{Name: t.Text}
		for r.reads(".") {
			f.Path = append(f.Path, r.name())
		}
		r.test(&f)
		return made(r, t.At, f)
	}
}

// test reads what is said of what stands at a path.
func (r *reader) test(f *api.FormFact) {
	switch r.need("is", "<", "=").Text {
	case "is":
		f.Op = api.FactIs
		f.Class = r.need(anyName, "any", "int", "none").Text
	case "<":
		f.Op = api.FactLess
		f.N = r.number()
	default:
		f.Op = api.FactSame
		f.N = r.number()
	}
}
