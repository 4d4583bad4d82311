package read_test

import (
	"math/rand"
	"strings"
	"testing"

	"consort/api"
	"consort/read"
)

func TestParse(t *testing.T) {
	p, e := read.Parse(source)
	want(t, "error", e, api.OK)
	want(t, "program", tidy(p), tidy(example()))
	for s, m := range map[string]api.FormMethod{
		"method f(x) { 0 }":            fOf(num(0)),
		"method f(x) where true { 0 }": fOf(num(0)),
		"around go(x, y, z) { next }": {Kind: api.FormAround, Name: "go", Params: []string{"x", "y", "z"},
			Fact: facts(api.FactTrue), Body: exp(api.FormNext, "")},
		"after f(x) where x is any or x is int and x is none { x }": {Kind: api.FormAfter, Name: "f", Params: []string{"x"},
			Fact: facts(api.FactOr, is("x", "any"), facts(api.FactAnd, is("x", "int"), is("x", "none"))), Body: name("x")},
		"before f(x) where x = 1 or x = 2 or not not x = ~3 { x }": {Kind: api.FormBefore, Name: "f", Params: []string{"x"},
			Fact: facts(api.FactOr, facts(api.FactOr, same("x", 1), same("x", 2)), facts(api.FactNot, facts(api.FactNot, same("x", -3)))), Body: name("x")},
		"method f(x) where x = 1 and (x = 2 and x = 3) and not (x = 4 or true) { 0 }": {Kind: api.FormPrimary, Name: "f", Params: []string{"x"},
			Fact: facts(api.FactAnd, facts(api.FactAnd, same("x", 1), facts(api.FactAnd, same("x", 2), same("x", 3))),
				facts(api.FactNot, facts(api.FactOr, same("x", 4), facts(api.FactTrue)))), Body: num(0)},
	} {
		got, e := read.Parse(s + " then 0")
		want(t, s, e, api.OK)
		want(t, s, tidy(got), api.FormProg{Methods: []api.FormMethod{m}, Main: num(0)})
	}
	p, e = read.Parse("class a { f, g } class b class c : b, a { h } [ f = ~1, h = 1000000000 ] then 0")
	want(t, "error", e, api.OK)
	want(t, "classes", tidy(p), api.FormProg{Main: num(0), Classes: []api.FormClass{
		{Name: "a", Slots: []string{"f", "g"}}, {Name: "b"},
		{Name: "c", Parents: []string{"b", "a"}, Slots: []string{"h"}, Inits: []api.FormInit{{Slot: "f", N: -1}, {Slot: "h", N: 1000000000}}},
	}})
}

// TestExp reads expressions, and prints them as they stood there.
func TestExp(t *testing.T) {
	a, b, c := name("a"), name("b"), name("c")
	for s, x := range map[string]api.FormExp{
		"1":                                     num(1),
		"~1000000000":                           num(-1000000000),
		"none":                                  none(),
		"next":                                  exp(api.FormNext, ""),
		"a":                                     a,
		"((a))":                                 a,
		"go(a)":                                 exp(api.FormCall, "go", a),
		"go(a, 1; 2, c)":                        exp(api.FormCall, "go", a, exp(api.FormSeq, "", num(1), num(2)), c),
		"new a":                                 exp(api.FormNew, "a"),
		"turn c(a)":                             exp(api.FormTurn, "c", a),
		"set f(a, b)":                           exp(api.FormSet, "f", a, b),
		"out(a)":                                exp(api.FormOut, "", a),
		"if a { b } else { c }":                 exp(api.FormIf, "", a, b, c),
		"let a = b in c":                        exp(api.FormLet, "a", b, c),
		"let a = b in c; a":                     exp(api.FormLet, "a", b, exp(api.FormSeq, "", c, a)),
		"(let a = b in c); a":                   exp(api.FormSeq, "", exp(api.FormLet, "a", b, c), a),
		"let a = 1; 2 in 3":                     exp(api.FormLet, "a", exp(api.FormSeq, "", num(1), num(2)), num(3)),
		"a; b; c":                               exp(api.FormSeq, "", a, exp(api.FormSeq, "", b, c)),
		"(a; b); c":                             exp(api.FormSeq, "", exp(api.FormSeq, "", a, b), c),
		"a; let a = b in c":                     exp(api.FormSeq, "", a, exp(api.FormLet, "a", b, c)),
		"a + b - c":                             exp(api.FormSub, "", exp(api.FormAdd, "", a, b), c),
		"a - (b + c)":                           exp(api.FormSub, "", a, exp(api.FormAdd, "", b, c)),
		"a * b * c":                             exp(api.FormMul, "", exp(api.FormMul, "", a, b), c),
		"a * (b * c)":                           exp(api.FormMul, "", a, exp(api.FormMul, "", b, c)),
		"a + b * c":                             exp(api.FormAdd, "", a, exp(api.FormMul, "", b, c)),
		"(a + b) * c":                           exp(api.FormMul, "", exp(api.FormAdd, "", a, b), c),
		"a < b + c":                             exp(api.FormLess, "", a, exp(api.FormAdd, "", b, c)),
		"a - b = c":                             exp(api.FormSame, "", exp(api.FormSub, "", a, b), c),
		"(a = b) = c":                           exp(api.FormSame, "", exp(api.FormSame, "", a, b), c),
		"a < (b < c)":                           exp(api.FormLess, "", a, exp(api.FormLess, "", b, c)),
		"a < b; c":                              exp(api.FormSeq, "", exp(api.FormLess, "", a, b), c),
		"a.f.g":                                 exp(api.FormSlot, "g", exp(api.FormSlot, "f", a)),
		"(a * b).f":                             exp(api.FormSlot, "f", exp(api.FormMul, "", a, b)),
		"a * b.f":                               exp(api.FormMul, "", a, exp(api.FormSlot, "f", b)),
		"5.f":                                   exp(api.FormSlot, "f", num(5)),
		"go(a).f":                               exp(api.FormSlot, "f", exp(api.FormCall, "go", a)),
		"a - ~5":                                exp(api.FormSub, "", a, num(-5)),
		"if a; b { 1 } else { let a = 2 in a }": exp(api.FormIf, "", exp(api.FormSeq, "", a, b), num(1), exp(api.FormLet, "a", num(2), a)),
	} {
		got, e := read.Exp(s)
		want(t, s, e, api.OK)
		want(t, s, tidyExp(got), x)
		printed, e := read.PrintExp(x)
		want(t, s, e, api.OK)
		if s != "((a))" {
			want(t, "what is printed", printed, s)
		}
	}
}

func TestWrongTexts(t *testing.T) {
	for _, s := range []string{"", "then", "0", "then 0 0", "class then 0", "then 0 class a", "then 0;", "then $", "then (0", "method then 0"} {
		p, e1 := read.Parse(s)
		spots, e2 := read.Spots(s)
		if e1 != api.ErrText || e2 != api.ErrText || !alike(p, api.FormProg{}) || spots != nil {
			t.Errorf("%q: %v %v", s, e1, e2)
		}
	}
	for _, s := range []string{"", "then 0", "0 0", "a b", "let a = 1", "a +", "(a", "a)", "$", "a $", "0;", "class a", "x is a", "07"} {
		x, e := read.Exp(s)
		if e != api.ErrText || !alikeExp(x, api.FormExp{}) {
			t.Errorf("%q: %v", s, e)
		}
	}
}

func TestUnformed(t *testing.T) {
	eleven := strings.Repeat("out(", 11) + "1" + strings.Repeat(")", 11)
	for _, s := range []string{
		"then x", "then next", "then 1000000001", "then ~9999999999", "then new a", "then 0.f", "then f(0); f(0, 0)",
		"class a class a then 0", "class a : a then 0", "class a : b class b then 0", "class a [ f = 1 ] then 0", "class a { f, f } then 0",
		"class a { f } [ f = 1, f = 1 ] then 0",
		"method f(x, x) { 0 } then 0", "method f(a, b, c, d) { 0 } then 0", "method f(x) where y is any { 0 } then 0",
		"method f(x) where x is a { 0 } then 0", "method f(x) where x < 1000000001 { 0 } then 0", "before f(x) { next } then 0",
		"method f(x) where x.f = 0 { 0 } then 0", "class a { f } method f(x) where x.f.f.f = 0 { 0 } then 0",
		"then out(" + eleven + ")", "then 0" + strings.Repeat(" + 0", 60),
	} {
		p, e1 := read.Parse(s)
		spots, e2 := read.Spots(s)
		if e1 != api.ErrArg || e2 != api.ErrArg || !alike(p, api.FormProg{}) || spots != nil {
			t.Errorf("%q: %v %v", s, e1, e2)
		}
		if _, e := read.Fault(s); e != api.ErrNone {
			t.Errorf("%q can be read", s)
		}
		if q, faults, e := read.Mend(s); e != api.OK || len(faults) > 0 || q.Main.Op == 0 {
			t.Errorf("%q is not mended", s)
		}
	}
	for _, s := range []string{"1000000001", "f(1, 2, 3, 4)", "out(" + eleven + ")", "0" + strings.Repeat("; 0", 60)} {
		if x, e := read.Exp(s); e != api.ErrArg || !alikeExp(x, api.FormExp{}) {
			t.Errorf("%q: %v", s, e)
		}
	}
	for _, s := range []string{"next", "x.f", "new a", eleven, "turn c(set f(next, 0))"} {
		if _, e := read.Exp(s); e != api.OK {
			t.Errorf("%q: %v", s, e)
		}
	}
}

func TestSpots(t *testing.T) {
	for s, pieces := range map[string]string{
		source: "class a { f } [ f = 7 ]|class b : a { g }|class c : a, b [ f = 1 ]|" +
			"method show(x) where x is a { out(x.f) }|x is a|out(x.f)|x.f|x|" +
			"before show(y) where y.f < 5 { let z = y in z }|y.f < 5|let z = y in z|y|z|show(new c)|new c",
		"then 0":                                            "0",
		"then ((0))":                                        "0",
		"then (1; 2); 3":                                    "(1; 2); 3|1; 2|1|2|3",
		"then 1 - 2 - 3":                                    "1 - 2 - 3|1 - 2|1|2|3",
		"then 1 -((2)-3 )":                                  "1 -((2)-3 )|1|(2)-3|2|3",
		"then if(1){2}else{(3)} %":                          "if(1){2}else{(3)}|1|2|3",
		"class s{f}then(0).f . f":                           "class s{f}|(0).f . f|(0).f|0",
		"then let x=(1)in(let y=2 in(y))":                   "let x=(1)in(let y=2 in(y))|1|let y=2 in(y)|2|y",
		"method f(x)%\n{x}then none":                        "method f(x)%\n{x}||x|none",
		"method f(x)where((true)){x}then none":              "method f(x)where((true)){x}|true|x|none",
		"method f(x)where not(x=1 and(x=2))or x=3{0}then 0": "method f(x)where not(x=1 and(x=2))or x=3{0}|not(x=1 and(x=2))or x=3|not(x=1 and(x=2))|x=1 and(x=2)|x=1|x=2|x=3|0|0",
	} {
		got, e := read.Spots(s)
		want(t, s, e, api.OK)
		var l []string
		for _, spot := range got {
			l = append(l, s[spot.From:spot.To])
		}
		want(t, s, strings.Join(l, "|"), pieces)
	}
	got, e := read.Spots("method f ( x ) { x } then 0")
	want(t, "error", e, api.OK)
	want(t, "a fact that is not written", got, []api.ReadSpot{{From: 0, To: 20}, {From: 14, To: 14}, {From: 17, To: 18}, {From: 26, To: 27}})
	got, e = read.Spots(source)
	want(t, "error", e, api.OK)
	want(t, "how many", len(got), 15)
	want(t, "those of the chapter", []api.ReadSpot{got[1], got[4], got[6], got[10]}, []api.ReadSpot{{From: 24, To: 41}, {From: 98, To: 104}, {From: 111, To: 114}, {From: 149, To: 163}})
}

// TestRandomTexts writes programs with brackets, blanks and remarks wherever
// they can stand, and reads them again: the program, its spots, and what each
// of these says alone.
func TestRandomTexts(t *testing.T) {
	r := rand.New(rand.NewSource(6))
	for range 2000 {
		p := randomProgram(r)
		w := &writer{Rand: r}
		w.program(p)
		s, at, behind := strew(r, w.tokens)
		got, e := read.Parse(s)
		if e != api.OK || !alike(got, p) {
			t.Fatalf("%q: %v %+v", s, e, got)
		}
		var spots []api.ReadSpot
		for _, x := range w.spots {
			spot := api.ReadSpot{From: behind[x.To-1], To: behind[x.To-1]}
			if x.From < x.To {
				spot.From = at[x.From]
			}
			spots = append(spots, spot)
		}
		found, e := read.Spots(s)
		want(t, s, e, api.OK)
		want(t, s, found, spots)
		readAlone(t, s, p, found)
	}
}

// readAlone reads the bytes of each spot alone, and compares what they say
// with the node.
func readAlone(t *testing.T, s string, p api.FormProg, spots []api.ReadSpot) {
	t.Helper()
	take := func() string {
		spot := spots[0]
		spots = spots[1:]
		return s[spot.From:spot.To]
	}
	for _, c := range p.Classes {
		q, faults, _ := read.Mend(take())
		want(t, s, len(faults), 0)
		want(t, s, tidy(q).Classes, tidy(api.FormProg{Classes: []api.FormClass{c}}).Classes)
	}
	var exps func(e api.FormExp)
	exps = func(e api.FormExp) {
		got, err := read.Exp(take())
		want(t, s, err, api.OK)
		want(t, s, tidyExp(got), tidyExp(e))
		for _, kid := range e.Kids {
			exps(kid)
		}
	}
	var inFact func(m api.FormMethod, f api.FormFact)
	inFact = func(m api.FormMethod, f api.FormFact) {
		if alone := take(); alone != "" {
			q, faults, _ := read.Mend("method f(x) where " + alone + "\n{ 0 }")
			want(t, s, len(faults), 0)
			want(t, s, tidyFact(q.Methods[0].Fact), tidyFact(f))
		}
		for _, kid := range f.Kids {
			inFact(m, kid)
		}
	}
	for _, m := range p.Methods {
		q, faults, _ := read.Mend(take())
		want(t, s, len(faults), 0)
		want(t, s, tidy(q).Methods, tidy(api.FormProg{Methods: []api.FormMethod{m}}).Methods)
		inFact(m, m.Fact)
		exps(m.Body)
	}
	exps(p.Main)
	want(t, s, len(spots), 0)
}
