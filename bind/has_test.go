package bind_test

import (
	"fmt"
	"math"
	"math/rand"
	"testing"

	"consort/api"
	"consort/bind"
)

func TestWorld(t *testing.T) {
	w, e := bind.World(exampleQ())
	wantText(t, "the world of Q", tuple(w, e), tuple(api.FactWorld{Parents: [][]int{nil, {3}, {4, 3}}, Owner: []int{3, 4}}, api.OK))
	w, e = bind.World(alone(node(api.FormNone, 0)))
	wantText(t, "the world without classes", tuple(w, e), tuple(api.FactWorld{}, api.OK))
	p := toldBind(parse("class a class b { b, f } class c : b, a class d { a, x, y } class e : c { g } then 0"))
	w, e = bind.World(p)
	wantText(t, "a world", tuple(w, e), tuple(api.FactWorld{Parents: [][]int{nil, nil, {4, 3}, nil, {5}}, Owner: []int{4, 4, 6, 6, 6, 7}}, api.OK))
}

func TestHasAndBegin(t *testing.T) {
	init := func(l ...int) []api.BindInit {
		var out []api.BindInit
		for i := 0; i < len(l); i += 2 {
			out = append(out, api.BindInit{Slot: l[i], N: l[i+1]})
		}
		return out
	}
	// The class 6 is below two classes that begin the slot 0, the class 8 is so in the other order.
	diamond := toldBind(parse("class a { f, g } [ g = 5, f = 7 ] class b : a [ f = 1 ] class c : a { h } [ f = 2, h = 0 ] class d : b, c { i } class e { j } class f : c, b [ h = 4 ] class g : e, d [ f = ~9 ] then 0"))
	none := toldBind(parse("class a class b { f } class c : a, b then 0"))
	for i, x := range []struct {
		p     api.BindProg
		class int
		has   []int
		begin []api.BindInit
	}{
		{exampleQ(), 5, []int{0, 1}, init(0, 1)},
		{exampleQ(), 4, []int{0, 1}, init(0, 7)},
		{exampleQ(), 3, []int{0}, init(0, 7)},
		{diamond, 3, []int{0, 1}, init(0, 7, 1, 5)},
		{diamond, 4, []int{0, 1}, init(0, 1, 1, 5)},
		{diamond, 5, []int{0, 1, 2}, init(0, 2, 1, 5, 2, 0)},
		{diamond, 6, []int{0, 1, 2, 3}, init(0, 1, 1, 5, 2, 0)},
		{diamond, 7, []int{4}, nil},
		{diamond, 8, []int{0, 1, 2}, init(0, 2, 1, 5, 2, 4)},
		{diamond, 9, []int{0, 1, 2, 3, 4}, init(0, -9, 1, 5, 2, 0)},
		{none, 3, nil, nil},
		{none, 4, []int{0}, nil},
		{none, 5, []int{0}, nil},
	} {
		has, e1 := bind.Has(x.p, x.class)
		begin, e2 := bind.Begin(x.p, x.class)
		wantText(t, fmt.Sprint("the class of ", i), tuple(has, begin, e1, e2), tuple(x.has, x.begin, api.OK, api.OK))
	}
	for _, class := range []int{-1, 0, 1, 2, 6, math.MinInt, math.MaxInt} {
		has, e1 := bind.Has(exampleQ(), class)
		begin, e2 := bind.Begin(exampleQ(), class)
		wantText(t, fmt.Sprint("no class ", class), tuple(has, begin, e1, e2), tuple([]int{}, []int{}, api.ErrArg, api.ErrArg))
	}
	_, e1 := bind.Has(alone(node(api.FormNone, 0)), 3)
	_, e2 := bind.Begin(alone(node(api.FormNone, 0)), 3)
	wantText(t, "a program without classes", tuple(e1, e2), tuple(api.ErrArg, api.ErrArg))
	has, e1 := bind.Has(limit(), 12)
	begin, e2 := bind.Begin(limit(), 12)
	wantText(t, "at the limits", tuple(has, e1, begin, e2), tuple(toldHas(limit(), 12), api.OK, toldBegin(limit(), 12), api.OK))
	wantText(t, "at the limits", tuple(len(has), len(begin)), tuple(40, 40))
}

func TestHasMany(t *testing.T) {
	r := rand.New(rand.NewSource(10))
	classes, inits := 0, 0
	for range 1500 {
		p := bound(r)
		w, e := bind.World(p)
		wantText(t, "the world", tuple(w, e), tuple(toldWorld(p), api.OK))
		for i := range p.Classes {
			has, e1 := bind.Has(p, 3+i)
			begin, e2 := bind.Begin(p, 3+i)
			told := toldBegin(p, 3+i)
			wantText(t, "a class", tuple(has, begin, e1, e2), tuple(toldHas(p, 3+i), told, api.OK, api.OK))
			classes, inits = classes+1, inits+len(told)
		}
	}
	if classes < 2000 || inits < 2000 {
		t.Errorf("too few classes (%d) or slots that begin (%d)", classes, inits)
	}
}
