package shape_test

import (
	"math/rand"
	"slices"
	"testing"

	"consort/api"
	"consort/shape"
)

func TestFree(t *testing.T) {
	for i, x := range []struct {
		e    api.FormExp
		want []string
	}{
		{num(1), nil},
		{exp(api.FormNext, ""), nil},
		{name("x"), []string{"x"}},
		{let("a", name("a"), add(name("a"), name("b"))), []string{"a", "b"}},
		{let("a", num(1), name("a")), nil},
		{let("a", num(1), let("b", name("a"), add(name("b"), name("c")))), []string{"c"}},
		{add(let("a", num(1), name("a")), name("a")), []string{"a"}},
		{add(name("b"), add(name("aa"), name("b"))), []string{"aa", "b"}},
		{exp(api.FormCall, "go", exp(api.FormSlot, "f", exp(api.FormNew, "c"))), nil},
		{let("a", let("b", num(1), name("b")), name("b")), []string{"b"}},
	} {
		if l, e := shape.Free(x.e); !slices.Equal(l, x.want) || e != api.OK {
			t.Errorf("%d: %q (%d), not %q", i, l, e, x.want)
		}
	}
}

func TestPut(t *testing.T) {
	a, b, x := name("a"), name("b"), name("x")
	sum := add(a, num(1))
	for i, z := range []struct{ e, y, want api.FormExp }{
		{x, exp(api.FormNext, ""), exp(api.FormNext, "")},
		{b, a, b},
		{x, x, x},
		{num(3), a, num(3)},
		{let("a", num(2), add(x, a)), sum, let("b", num(2), add(sum, b))},
		{let("x", x, x), sum, let("x", sum, x)},
		{let("x", num(1), let("a", x, add(a, x))), a, let("x", num(1), let("a", x, add(a, x)))},
		// What a FormLet binds is bound in its second Kid alone.
		{let("x", let("a", num(1), x), x), a, let("x", let("b", num(1), a), x)},
		{let("a", x, a), a, let("a", a, a)},
		{let("a", num(1), let("x", x, x)), a, let("b", num(1), let("x", a, x))},
		// Nothing is renamed that does not have to be.
		{let("a", num(1), b), a, let("a", num(1), b)},
		{let("b", num(1), x), a, let("b", num(1), a)},
		{let("a", num(1), x), let("a", num(2), a), let("a", num(1), let("a", num(2), a))},
		{let("a", num(1), x), exp(api.FormSlot, "a", exp(api.FormNew, "a")), let("a", num(1), exp(api.FormSlot, "a", exp(api.FormNew, "a")))},
		// Names are chosen in the order of the nodes, each once.
		{let("a", num(1), let("b", a, add(x, b))), add(a, b), let("c", num(1), let("d", name("c"), add(add(a, b), name("d"))))},
		{let("a", num(1), let("a", a, add(a, x))), a, let("b", num(1), let("c", b, add(name("c"), a)))},
		{let("a", let("a", num(1), add(a, x)), add(a, x)), a, let("b", let("c", num(1), add(name("c"), a)), add(b, a))},
		{add(let("a", num(1), x), let("a", num(2), x)), a, add(let("b", num(1), a), let("c", num(2), a))},
		// Not chosen are names of the expression, bound ones too, and those of what is put; others' names are.
		{add(let("a", num(1), x), let("b", num(1), name("c"))), add(a, name("d")), add(let("e", num(1), add(a, name("d"))), let("b", num(1), name("c")))},
		{let("a", exp(api.FormCall, "b", exp(api.FormNew, "c")), x), a, let("b", exp(api.FormCall, "b", exp(api.FormNew, "c")), a)},
		{let("a", num(1), x), add(a, let("b", num(1), b)), let("b", num(1), add(a, let("b", num(1), b)))},
		{exp(api.FormIf, "", x, out(x), exp(api.FormSet, "f", x, x)), a, exp(api.FormIf, "", a, out(a), exp(api.FormSet, "f", a, a))},
	} {
		if got, e := shape.Put(z.e, "x", z.y); expText(got) != expText(z.want) || e != api.OK {
			t.Errorf("%d: %s (%d), not %s", i, expText(got), e, expText(z.want))
		}
	}
	// The name itself is not chosen.
	got, e := shape.Put(let("a", num(1), b), "b", a)
	if want := let("c", num(1), a); expText(got) != expText(want) || e != api.OK {
		t.Errorf("%s (%d), not %s", expText(got), e, expText(want))
	}
}

func TestPutErrors(t *testing.T) {
	x := name("x")
	for i, z := range []struct {
		e    api.FormExp
		x    string
		y    api.FormExp
		want api.Errno
	}{
		{x, "in", num(1), api.ErrArg}, {x, "", num(1), api.ErrArg}, {x, "X", num(1), api.ErrArg}, {x, "abcdefghi", num(1), api.ErrArg},
		{api.FormExp{}, "x", num(1), api.ErrArg}, {x, "x", api.FormExp{}, api.ErrArg}, {num(1), "x", chain(13, num(1)), api.ErrArg},
		{num(1), "in", chain(12, num(1)), api.ErrArg}, {add(x, x), "in", bush(119, num(1)), api.ErrArg},
		{add(x, x), "x", bush(59, num(1)), api.OK}, {add(x, x), "x", bush(61, num(1)), api.ErrLong},
		{bush(119, x), "x", bush(119, num(1)), api.ErrLong},
		{out(x), "x", chain(11, num(1)), api.OK}, {out(x), "x", chain(12, num(1)), api.ErrLong},
		{out(name("y")), "x", chain(12, num(1)), api.OK},
		{chain(12, x), "x", num(1), api.OK}, {chain(12, x), "x", out(num(1)), api.ErrLong},
	} {
		got, e := shape.Put(z.e, z.x, z.y)
		if e != z.want || e != api.OK && expText(got) != expText(api.FormExp{}) {
			t.Errorf("%d: %d, not %d", i, e, z.want)
		}
	}
}

// Whatever is put where: nothing is caught, and what is free is what P1.3 says.
func TestPutCatchesNothing(t *testing.T) {
	r := rand.New(rand.NewSource(1))
	names := []string{"a", "b", "c", "x"}
	for range 20000 {
		e, y := randomExp(r, 5, nil, false), randomExp(r, 3, nil, false)
		x := names[r.Intn(len(names))]
		got, err := shape.Put(e, x, y)
		if err == api.ErrLong {
			continue
		}
		inner := nameless(y, nil, itself)
		want := nameless(e, nil, func(s string) string {
			if s == x {
				return inner
			}
			return s
		})
		if err != api.OK || nameless(got, nil, itself) != want {
			t.Fatalf("%s in place of %s in %s: %s (%d)", expText(y), x, expText(e), expText(got), err)
		}
		free, _ := shape.Free(e)
		if !slices.Equal(free, freeIn(e)) {
			t.Fatalf("Free of %s: %q", expText(e), free)
		}
		after, _ := shape.Free(got)
		if !slices.Equal(after, freeAfter(free, x, freeIn(y))) {
			t.Fatalf("Free of %s: %q", expText(got), after)
		}
	}
}

func freeAfter(free []string, x string, inner []string) []string {
	if !slices.Contains(free, x) {
		return free
	}
	l := slices.DeleteFunc(slices.Clone(free), func(s string) bool { return s == x })
	l = append(l, inner...)
	slices.Sort(l)
	return slices.Compact(l)
}

// Names that need not change stay, and those that change are what the chapter says.
func TestPutRenamesWhatItMust(t *testing.T) {
	r := rand.New(rand.NewSource(2))
	for range 20000 {
		e, y := randomExp(r, 5, nil, false), add(name("a"), name("b"))
		got, err := shape.Put(e, "x", y)
		if err != api.OK {
			continue
		}
		taken := append(mentioned(e), "x", "a", "b")
		var walk func(e, got api.FormExp, around bool)
		walk = func(e, got api.FormExp, around bool) {
			if e.Op == api.FormName {
				return
			}
			inner := around
			if e.Op == api.FormLet {
				want := e.Text
				hides := e.Text == "a" || e.Text == "b"
				if hides && !around && slices.Contains(freeIn(e.Kids[1]), "x") {
					want = shape.Fresh(taken)
					taken = append(taken, want)
				}
				if got.Text != want {
					t.Fatalf("%s: %s, not %s", expText(e), expText(got), want)
				}
				inner = around || e.Text == "x"
			}
			for i := range e.Kids {
				walk(e.Kids[i], got.Kids[i], i == 0 && around || i == 1 && inner)
			}
		}
		walk(e, got, false)
	}
}

// mentioned are the names that stand in an expression.
func mentioned(e api.FormExp) []string {
	var l []string
	if e.Op == api.FormName || e.Op == api.FormLet {
		l = append(l, e.Text)
	}
	for _, kid := range e.Kids {
		l = append(l, mentioned(kid)...)
	}
	return l
}
