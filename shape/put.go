package shape

import "consort/api"

// Put returns the expression y in place of the name x in e.
func Put(e api.FormExp, x string, y api.FormExp) (api.FormExp, api.Errno) {
	if CheckExp(e) != api.OK || !Name(x) || CheckExp(y) != api.OK {
		return api.FormExp{}, api.ErrArg
	}
	p := newPutting(e, x, y)
	out := changer{let: p.let, free: p.free}.change(e, nil)
	if CheckExp(out) != api.OK {
		return api.FormExp{}, api.ErrLong
	}
	return out, api.OK
}

// putting is what is known while an expression is put in place of a name.
type putting struct {
	name  string
	place api.FormExp
	inner map[string]bool // the free names of place
	taken map[string]bool // the names that no FormLet can have instead of its own
}

func newPutting(e api.FormExp, x string, y api.FormExp) putting {
	p := putting{name: x, place: y, inner: freeNames(y), taken: map[string]bool{x: true}}
	for q := range nodes(exp(e)) {
		if n, ok := q.(exp); ok && (n.Op == api.FormName || n.Op == api.FormLet) {
			p.taken[n.Text] = true
		}
	}
	for name := range p.inner {
		p.taken[name] = true
	}
	return p
}

// let chooses another name for a FormLet that would bind a name of what is put.
func (p putting) let(e api.FormExp, around *bound) string {
	if !p.inner[e.Text] || e.Text == p.name || !freeNames(e.Kids[1])[p.name] {
		return e.Text
	}
	if _, is := around.find(p.name); is {
		return e.Text
	}
	now := firstName(p.taken)
	p.taken[now] = true
	return now
}

func (p putting) free(name string) api.FormExp {
	if name != p.name {
		return nameExp(name)
	}
	return copyExp(p.place)
}

func copyExp(e api.FormExp) api.FormExp {
	e.Kids = each(e.Kids, copyExp)
	return e
}
