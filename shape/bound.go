package shape

import (
	"maps"
	"slices"

	"consort/api"
)

// bound is a bound name, what it is called now, and the bound names around it.
type bound struct {
	*bound
	name, now string
}

// find returns what a name is called now, and whether it is bound at all.
func (b *bound) find(name string) (string, bool) {
	for ; b != nil; b = b.bound {
		if b.name == name {
			return b.now, true
		}
	}
	return name, false
}

// Free returns the free names of an expression, sorted.
func Free(e api.FormExp) ([]string, api.Errno) {
	if err := CheckExp(e); err != api.OK {
		return nil, err
	}
	return slices.Sorted(maps.Keys(freeNames(e))), api.OK
}

func freeNames(e api.FormExp) map[string]bool {
	free := map[string]bool{}
	var walk func(e api.FormExp, around *bound)
	walk = func(e api.FormExp, around *bound) {
		switch e.Op {
		case api.FormName:
			if _, is := around.find(e.Text); !is {
				free[e.Text] = true
			}
		case api.FormLet:
			walk(e.Kids[0], around)
			walk(e.Kids[1], &bound{around, e.Text, e.Text})
		default:
			for _, kid := range e.Kids {
				walk(kid, around)
			}
		}
	}
	walk(e, nil)
	return free
}

// changer makes another expression of one, with other names.
type changer struct {
	let  func(e api.FormExp, around *bound) string // what the name of a FormLet becomes
	free func(name string) api.FormExp             // what a free name becomes
}

func (c changer) change(e api.FormExp, around *bound) api.FormExp {
	switch e.Op {
	case api.FormName:
		now, is := around.find(e.Text)
		if !is {
			return c.free(e.Text)
		}
		e.Text = now
	case api.FormLet:
		// The name is chosen ahead of those in the first Kid: this is the order of the nodes.
		now := c.let(e, around)
		value := c.change(e.Kids[0], around)
		rest := c.change(e.Kids[1], &bound{around, e.Text, now})
		e.Text, e.Kids = now, []api.FormExp{value, rest}
	default:
		e.Kids = each(e.Kids, func(kid api.FormExp) api.FormExp { return c.change(kid, around) })
	}
	return e
}

func nameExp(name string) api.FormExp {
	return api.FormExp{Op: api.FormName, Text: name}
}
