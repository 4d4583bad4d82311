package shape_test

import (
	"slices"
	"strings"
	"testing"

	"consort/api"
	"consort/shape"
)

func TestGens(t *testing.T) {
	call := func(gen string, kids ...api.FormExp) api.FormExp { return exp(api.FormCall, gen, kids...) }
	for i, x := range []struct {
		p    api.FormProg
		want string
	}{
		{api.FormProg{Main: num(1)}, ""},
		{example(), "show"},
		{changed(func(p *api.FormProg) { p.Methods[1].Name = "go" }), "show go"},
		// Names of all methods come ahead of what bodies call, and an outer call ahead of those in it.
		{changed(func(p *api.FormProg) {
			p.Methods[0].Body = call("eq", call("go", name("x")), call("two", call("eq", num(1), num(1))))
			p.Methods[1].Name, p.Methods[1].Body = "last", call("go", num(1))
			p.Main = call("end", call("two", call("last", num(1))))
		}), "show last eq go two end"},
		{api.FormProg{Main: add(call("b", call("a", num(1))), call("a", num(1)))}, "b a"},
	} {
		if l, e := shape.Gens(x.p); strings.Join(l, " ") != x.want || e != api.OK {
			t.Errorf("%d: %q (%d), not %s", i, l, e, x.want)
		}
	}
}

func TestSlots(t *testing.T) {
	for i, x := range []struct {
		p    api.FormProg
		want string
	}{
		{api.FormProg{Main: num(1)}, ""},
		{example(), "f g"},
		{changed(func(p *api.FormProg) { p.Classes[0].Slots, p.Classes[2].Slots = []string{"z", "f", "y"}, []string{"a"} }), "z f y g a"},
	} {
		if l, e := shape.Slots(x.p); strings.Join(l, " ") != x.want || e != api.OK {
			t.Errorf("%d: %q (%d), not %s", i, l, e, x.want)
		}
	}
}

func TestAbove(t *testing.T) {
	diamond := api.FormProg{Main: num(1), Classes: []api.FormClass{
		{Name: "top"}, {Name: "other"}, {Name: "left", Parents: []string{"top"}}, {Name: "right", Parents: []string{"top"}},
		{Name: "low", Parents: []string{"right", "left"}}, {Name: "last", Parents: []string{"low"}},
	}}
	for s, want := range map[string]string{"top": "", "other": "", "left": "top", "low": "top left right", "last": "top left right low"} {
		if l, e := shape.Above(diamond, s); strings.Join(l, " ") != want || e != api.OK {
			t.Errorf("above %s: %q (%d), not %s", s, l, e, want)
		}
	}
	for s, want := range map[string]string{"a": "", "b": "a", "c": "a b"} {
		if l, e := shape.Above(example(), s); strings.Join(l, " ") != want || e != api.OK {
			t.Errorf("above %s: %q (%d), not %s", s, l, e, want)
		}
	}
	for _, s := range []string{"", "d", "any", "int", "none", "f", "show"} {
		if l, e := shape.Above(example(), s); l != nil || e != api.ErrArg {
			t.Errorf("above %s: %q (%d)", s, l, e)
		}
	}
	if l, e := shape.Above(api.FormProg{}, "a"); l != nil || e != api.ErrArg {
		t.Errorf("above a class of nothing: %q (%d)", l, e)
	}
}

func TestAboveGoesAllTheWay(t *testing.T) {
	p := api.FormProg{Main: num(1)}
	for i, s := range alphabet()[:api.FormClasses] {
		c := api.FormClass{Name: s}
		if i > 0 {
			c.Parents = []string{p.Classes[i-1].Name}
		}
		p.Classes = append(p.Classes, c)
	}
	for i, s := range alphabet()[:api.FormClasses] {
		if l, e := shape.Above(p, s); !slices.Equal(l, alphabet()[:i]) || e != api.OK {
			t.Errorf("above %s: %q (%d)", s, l, e)
		}
	}
}
