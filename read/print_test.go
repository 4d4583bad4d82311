package read_test

import (
	"math/rand"
	"slices"
	"strings"
	"testing"

	"consort/api"
	"consort/read"
)

func TestPrint(t *testing.T) {
	for _, s := range []string{
		"then 0",
		"then let x = 1; 2 in x",
		"class a { f } [ f = 7 ] class b : a { g } class c : a, b [ f = 1 ] method show(x) where x is a { out(x.f) } before show(y) where y.f < 5 { let z = y in z } then show(new c)",
		"class a class b : a class c { f, g } [ f = ~1, g = 0 ] then none",
		"method f(x) { next } after f(x) { x } around f(x) where not true { next } then f(1)",
		"class a class b method f(x) where (x is a or x is b) and not (x = 1 and x = 2) { 0 } then 0",
		"class a { f } method f(x, y, z) where x.f.f < ~5 or y is any and z.f is int or not x is none { (x; y; z).f } then f(1, 2, 3)",
		"method f(x) where x = 1 and (x = 2 and x = 3) or (x = 4 or x = 5) { 0 } then 0",
		"method f(x) where true and true { 0 } then 0",
		"class c { f } then set f(turn c(new c), out(1; 2); 3); if (1; 2).f = 3 { let x = let y = 1 in y in x } else { (let x = 1 in x); 2 }",
	} {
		p, e := read.Parse(s)
		want(t, s, e, api.OK)
		got, e := read.Print(p)
		want(t, s, e, api.OK)
		want(t, "what is printed", got, s)
	}
	p, _ := read.Parse("method f(x) where true { x } then 0")
	got, _ := read.Print(p)
	want(t, "a fact that is always so", got, "method f(x) { x } then 0")
	got, e := read.Print(example())
	want(t, "error", e, api.OK)
	want(t, "the example", got, strings.TrimSpace(strings.Join(strings.Fields(strings.Replace(source, "% below a", "", 1)), " ")))
}

func TestPrintExp(t *testing.T) {
	a, b, c, d := name("a"), name("b"), name("c"), name("d")
	for s, x := range map[string]api.FormExp{
		"a - b - (c - d)": exp(api.FormSub, "", exp(api.FormSub, "", a, b), exp(api.FormSub, "", c, d)),
		"(1; 2); 3":       exp(api.FormSeq, "", exp(api.FormSeq, "", num(1), num(2)), num(3)),
		"(1 < 2) = 0":     exp(api.FormSame, "", exp(api.FormLess, "", num(1), num(2)), num(0)),
		"(a * b).f":       exp(api.FormSlot, "f", exp(api.FormMul, "", a, b)),
		"(a - b).f.g":     exp(api.FormSlot, "g", exp(api.FormSlot, "f", exp(api.FormSub, "", a, b))),
		"((1; 2) + 3).f":  exp(api.FormSlot, "f", exp(api.FormAdd, "", exp(api.FormSeq, "", num(1), num(2)), num(3))),
		"(let a = 1 in a) + (if a { b } else { c }.f < none)": exp(api.FormAdd, "", exp(api.FormLet, "a", num(1), a),
			exp(api.FormLess, "", exp(api.FormSlot, "f", exp(api.FormIf, "", a, b, c)), none())),
		"out(next) * (a * turn b(c))": exp(api.FormMul, "", exp(api.FormOut, "", exp(api.FormNext, "")), exp(api.FormMul, "", a, exp(api.FormTurn, "b", c))),
	} {
		got, e := read.PrintExp(x)
		want(t, s, e, api.OK)
		want(t, "what is printed", got, s)
	}
}

// spaced puts one blank between tokens, but none where the chapter says so.
func spaced(tokens []api.ReadToken) string {
	s := ""
	for i, x := range tokens {
		if i > 0 {
			last := tokens[i-1]
			call := x.Text == "(" && (last.Kind == api.ReadName || last.Text == "out")
			if !call && x.Text != "." && last.Text != "." && last.Text != "(" && !slices.Contains([]string{")", ",", ";"}, x.Text) {
				s += " "
			}
		}
		s += x.Text
	}
	return s
}

// needed asserts that a text says something else, or nothing, without any one
// of its pairs of brackets.
func needed(t *testing.T, tokens []api.ReadToken, same func(s string) bool) {
	t.Helper()
	for i := range tokens {
		depth := 0
		for j := i; j < len(tokens); j++ {
			if strings.Contains("({[", tokens[j].Text) {
				depth++
			}
			if strings.Contains(")}]", tokens[j].Text) {
				depth--
			}
			if depth == 0 {
				if j > i {
					without := slices.Concat(tokens[:i], tokens[i+1:j], tokens[j+1:])
					if s := strings.Join(texts(without), " "); same(s) {
						t.Errorf("brackets %d to %d are not needed: %q", i, j, s)
					}
				}
				break
			}
		}
	}
}

func TestRandomPrints(t *testing.T) {
	r := rand.New(rand.NewSource(7))
	for range 1000 {
		p := randomProgram(r)
		s, e := read.Print(p)
		want(t, s, e, api.OK)
		again, e := read.Parse(s)
		if e != api.OK || !alike(p, again) {
			t.Fatalf("%q is read as %+v", s, again)
		}
		tokens, _ := read.Tokens(s)
		want(t, "blanks", s, spaced(tokens))
		needed(t, tokens, func(s string) bool {
			q, e := read.Parse(s)
			return e == api.OK && alike(p, q)
		})
		other, _, _ := strew(r, texts(tokens))
		if q, e := read.Parse(other); e != api.OK || !alike(p, q) {
			t.Errorf("with other blanks: %q is read as %+v", other, q)
		}
		if strings.Contains(s, "where true {") {
			t.Errorf("a fact is always so: %q", s)
		}
	}
}

func TestRandomPrintExps(t *testing.T) {
	r := rand.New(rand.NewSource(8))
	m := maker{Rand: r, classes: []string{"a"}, slots: []string{"f", "longslot"}, gens: map[string]int{"go": 3, "show": 1}}
	for range 2000 {
		x := m.exp(1+r.Intn(5), []string{"x", "y"}, true)
		s, e := read.PrintExp(x)
		if e != api.OK {
			continue
		}
		again, e := read.Exp(s)
		if e != api.OK || !alikeExp(x, again) {
			t.Fatalf("%q is read as %+v", s, again)
		}
		tokens, _ := read.Tokens(s)
		want(t, "blanks", s, spaced(tokens))
		needed(t, tokens, func(s string) bool {
			y, e := read.Exp(s)
			return e == api.OK && alikeExp(x, y)
		})
		if other, _, _ := strew(r, texts(tokens)); other != "" {
			y, e := read.Exp(other)
			if e != api.OK || !alikeExp(x, y) {
				t.Errorf("with other blanks: %q is read as %+v", other, y)
			}
		}
	}
}

func TestPrintUnformed(t *testing.T) {
	for _, x := range []api.FormExp{{}, {Op: 19}, {Op: -1}, num(api.FormMost + 1), name("in"), name(""), name("A"), exp(api.FormAdd, "", num(1)),
		exp(api.FormAdd, "x", num(1), num(2)), exp(api.FormCall, "f"), exp(api.FormLet, "x", num(1)), exp(api.FormIf, "", num(1), num(2)), {Op: api.FormNone, N: 1}} {
		s, e := read.PrintExp(x)
		want(t, "error", e, api.ErrArg)
		want(t, "text", s, "")
		s, e = read.Print(api.FormProg{Main: x})
		want(t, "error", e, api.ErrArg)
		want(t, "text", s, "")
	}
	for _, change := range []func(p *api.FormProg){
		func(p *api.FormProg) { p.Classes[0].Name = "class" },
		func(p *api.FormProg) { p.Classes[0].Inits[0].Slot = "g" },
		func(p *api.FormProg) { p.Methods[0].Kind = 5 },
		func(p *api.FormProg) { p.Methods[0].Kind = 0 },
		func(p *api.FormProg) { p.Methods[0].Params = nil },
		func(p *api.FormProg) { p.Methods[0].Fact = api.FormFact{} },
		func(p *api.FormProg) { p.Methods[0].Fact = facts(api.FactAnd) },
		func(p *api.FormProg) { p.Main = name("x") },
	} {
		p := example()
		change(&p)
		s, e := read.Print(p)
		want(t, "error", e, api.ErrArg)
		want(t, "text", s, "")
	}
}
