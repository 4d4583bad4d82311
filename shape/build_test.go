package shape_test

import (
	"math/rand"
	"slices"
	"strings"

	"consort/api"
)

// Short ways to write expressions, facts and programs.

func exp(op api.FormOp, text string, kids ...api.FormExp) api.FormExp {
	return api.FormExp{Op: op, Text: text, Kids: kids}
}

func num(n int) api.FormExp { return api.FormExp{Op: api.FormInt, N: n} }

func name(s string) api.FormExp { return exp(api.FormName, s) }

func let(s string, value, rest api.FormExp) api.FormExp { return exp(api.FormLet, s, value, rest) }

func add(a, b api.FormExp) api.FormExp { return exp(api.FormAdd, "", a, b) }

func out(e api.FormExp) api.FormExp { return exp(api.FormOut, "", e) }

func is(param, class string, path ...string) api.FormFact {
	return api.FormFact{Op: api.FactIs, Name: param, Class: class, Path: path}
}

func less(param string, n int, path ...string) api.FormFact {
	return api.FormFact{Op: api.FactLess, Name: param, N: n, Path: path}
}

func both(op api.FactOp, kids ...api.FormFact) api.FormFact {
	return api.FormFact{Op: op, Kids: kids}
}

// example is the program P of the chapter.
func example() api.FormProg {
	return api.FormProg{
		Classes: []api.FormClass{
			{Name: "a", Slots: []string{"f"}, Inits: []api.FormInit{{Slot: "f", N: 7}}},
			{Name: "b", Parents: []string{"a"}, Slots: []string{"g"}},
			{Name: "c", Parents: []string{"a", "b"}, Inits: []api.FormInit{{Slot: "f", N: 1}}},
		},
		Methods: []api.FormMethod{
			{Kind: api.FormPrimary, Name: "show", Params: []string{"x"}, Fact: is("x", "a"), Body: out(exp(api.FormSlot, "f", name("x")))},
			{Kind: api.FormBefore, Name: "show", Params: []string{"y"}, Fact: less("y", 5, "f"), Body: let("z", name("y"), name("z"))},
		},
		Main: exp(api.FormCall, "show", exp(api.FormNew, "c")),
	}
}

func changed(by func(p *api.FormProg)) api.FormProg {
	p := example()
	by(&p)
	return p
}

// chain is an expression of a depth, bush one of an odd number of nodes that
// is as flat as can be; chainFact and bushFact are facts likewise.

func chain(depth int, end api.FormExp) api.FormExp {
	for range depth - 1 {
		end = out(end)
	}
	return end
}

func bush(nodes int, leaf api.FormExp) api.FormExp {
	l := slices.Repeat([]api.FormExp{leaf}, (nodes+1)/2)
	for len(l) > 1 {
		l = append(l[2:], add(l[0], l[1]))
	}
	return l[0]
}

func chainFact(depth int) api.FormFact {
	f := is("x", "a")
	for range depth - 1 {
		f = both(api.FactNot, f)
	}
	return f
}

func bushFact(nodes int) api.FormFact {
	l := slices.Repeat([]api.FormFact{is("x", "a")}, (nodes+1)/2)
	for len(l) > 1 {
		l = append(l[2:], both(api.FactAnd, l[0], l[1]))
	}
	return l[0]
}

// Texts of expressions and programs: equal ones have equal texts. They are
// made here once more so that no test leans on the package's own comparison.

func expText(e api.FormExp) string {
	var b strings.Builder
	b.WriteString(string(rune('A'+int(e.Op))) + e.Text)
	if e.N != 0 {
		b.WriteString(":" + number(e.N))
	}
	if len(e.Kids) > 0 {
		b.WriteString("(")
		for _, kid := range e.Kids {
			b.WriteString(expText(kid) + " ")
		}
		b.WriteString(")")
	}
	return b.String()
}

func number(n int) string {
	if n < 0 {
		return "-" + number(-n)
	}
	if n < 10 {
		return string(rune('0' + n))
	}
	return number(n/10) + string(rune('0'+n%10))
}

func factText(f api.FormFact) string {
	s := string(rune('A'+int(f.Op))) + f.Name + "." + strings.Join(f.Path, ".") + "/" + f.Class + ":" + number(f.N) + "("
	for _, kid := range f.Kids {
		s += factText(kid) + " "
	}
	return s + ")"
}

func progText(p api.FormProg) string {
	s := ""
	for _, c := range p.Classes {
		s += "class " + c.Name + " : " + strings.Join(c.Parents, ",") + "{" + strings.Join(c.Slots, ",") + "}["
		for _, init := range c.Inits {
			s += init.Slot + "=" + number(init.N) + ","
		}
		s += "]\n"
	}
	for _, m := range p.Methods {
		s += "method " + number(int(m.Kind)) + m.Name + "(" + strings.Join(m.Params, ",") + ") where " + factText(m.Fact) + expText(m.Body) + "\n"
	}
	return s + expText(p.Main)
}

// randomExp is a formed expression of at most depth levels, with few names,
// so that they hide each other often. With a closed list of names no other
// ones are free in it.
func randomExp(r *rand.Rand, depth int, scope []string, closed bool) api.FormExp {
	letters := []string{"a", "b", "c", "x"}
	sub := func() api.FormExp { return randomExp(r, depth-1, scope, closed) }
	kind := r.Intn(10)
	if depth <= 1 {
		kind = r.Intn(4)
	}
	switch kind {
	case 0, 1, 2:
		if !closed {
			return name(letters[r.Intn(len(letters))])
		}
		if len(scope) > 0 {
			return name(scope[r.Intn(len(scope))])
		}
		return num(r.Intn(9) - 4)
	case 3:
		return num(r.Intn(9) - 4)
	case 4, 5, 6:
		s := letters[r.Intn(len(letters))]
		value := sub()
		return let(s, value, randomExp(r, depth-1, append(slices.Clone(scope), s), closed))
	case 7:
		return exp(api.FormSlot, "f", sub())
	case 8:
		return exp(api.FormCall, "go", sub())
	}
	return add(sub(), sub())
}

// nameless writes an expression with bound names as distances to their
// FormLets: equal texts are the same up to bound names. Free names are what
// free says.
func nameless(e api.FormExp, scope []string, free func(string) string) string {
	switch e.Op {
	case api.FormName:
		for i := len(scope) - 1; i >= 0; i-- {
			if scope[i] == e.Text {
				return "#" + number(len(scope)-1-i)
			}
		}
		return free(e.Text)
	case api.FormLet:
		inner := append(slices.Clone(scope), e.Text)
		return "let(" + nameless(e.Kids[0], scope, free) + " " + nameless(e.Kids[1], inner, free) + ")"
	}
	s := string(rune('A'+int(e.Op))) + e.Text + ":" + number(e.N) + "("
	for _, kid := range e.Kids {
		s += nameless(kid, scope, free) + " "
	}
	return s + ")"
}

func itself(s string) string { return s }

// freeIn finds free names from below, as the chapter defines them.
func freeIn(e api.FormExp) []string {
	var l []string
	switch e.Op {
	case api.FormName:
		l = []string{e.Text}
	case api.FormLet:
		inner := slices.DeleteFunc(freeIn(e.Kids[1]), func(s string) bool { return s == e.Text })
		l = append(freeIn(e.Kids[0]), inner...)
	default:
		for _, kid := range e.Kids {
			l = append(l, freeIn(kid)...)
		}
	}
	slices.Sort(l)
	return slices.Compact(l)
}
