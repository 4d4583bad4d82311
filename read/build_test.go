package read_test

import (
	"math/rand"
	"reflect"
	"slices"
	"strconv"
	"strings"
	"testing"

	"consort/api"
	"consort/shape"
)

// source is the text S of the chapter.
const source = `class a { f } [ f = 7 ]
class b : a { g } % below a
class c : a, b [ f = 1 ]
method show(x) where x is a { out(x.f) }
before show(y) where y.f < 5 { let z = y in z }
then show(new c)
`

// Short ways to write expressions, facts and programs.

func exp(op api.FormOp, text string, kids ...api.FormExp) api.FormExp {
	return api.FormExp{Op: op, Text: text, Kids: kids}
}

func num(n int) api.FormExp { return api.FormExp{Op: api.FormInt, N: n} }

func name(s string) api.FormExp { return exp(api.FormName, s) }

func is(param, class string, path ...string) api.FormFact {
	return api.FormFact{Op: api.FactIs, Name: param, Class: class, Path: path}
}

func same(param string, n int) api.FormFact {
	return api.FormFact{Op: api.FactSame, Name: param, N: n}
}

func facts(op api.FactOp, kids ...api.FormFact) api.FormFact {
	return api.FormFact{Op: op, Kids: kids}
}

// example is the program P of layer 1's examples.
func example() api.FormProg {
	return api.FormProg{
		Classes: []api.FormClass{
			{Name: "a", Slots: []string{"f"}, Inits: []api.FormInit{{Slot: "f", N: 7}}},
			{Name: "b", Parents: []string{"a"}, Slots: []string{"g"}},
			{Name: "c", Parents: []string{"a", "b"}, Inits: []api.FormInit{{Slot: "f", N: 1}}},
		},
		Methods: []api.FormMethod{
			{Kind: api.FormPrimary, Name: "show", Params: []string{"x"}, Fact: is("x", "a"),
				Body: exp(api.FormOut, "", exp(api.FormSlot, "f", name("x")))},
			{Kind: api.FormBefore, Name: "show", Params: []string{"y"}, Fact: api.FormFact{Op: api.FactLess, Name: "y", Path: []string{"f"}, N: 5},
				Body: exp(api.FormLet, "z", name("y"), name("z"))},
		},
		Main: exp(api.FormCall, "show", exp(api.FormNew, "c")),
	}
}

// same values: what is empty is nothing.

func tidyExp(e api.FormExp) api.FormExp {
	e.Kids = tidied(e.Kids, tidyExp)
	return e
}

func tidyFact(f api.FormFact) api.FormFact {
	f.Kids, f.Path = tidied(f.Kids, tidyFact), tidied(f.Path, itself)
	return f
}

func tidy(p api.FormProg) api.FormProg {
	p.Classes = tidied(p.Classes, func(c api.FormClass) api.FormClass {
		c.Parents, c.Slots = tidied(c.Parents, itself), tidied(c.Slots, itself)
		c.Inits = tidied(c.Inits, func(i api.FormInit) api.FormInit { return i })
		return c
	})
	p.Methods = tidied(p.Methods, func(m api.FormMethod) api.FormMethod {
		m.Params, m.Fact, m.Body = tidied(m.Params, itself), tidyFact(m.Fact), tidyExp(m.Body)
		return m
	})
	p.Main = tidyExp(p.Main)
	return p
}

func tidied[T any](l []T, by func(T) T) []T {
	var out []T
	for _, x := range l {
		out = append(out, by(x))
	}
	return out
}

func itself(s string) string { return s }

func alike(p, q api.FormProg) bool { return reflect.DeepEqual(tidy(p), tidy(q)) }

func alikeExp(a, b api.FormExp) bool { return reflect.DeepEqual(tidyExp(a), tidyExp(b)) }

// Random programs, all of them formed.

type maker struct {
	*rand.Rand
	classes, slots []string
	gens           map[string]int
}

func pick(r *rand.Rand, l ...string) string { return l[r.Intn(len(l))] }

func (m maker) number() int {
	return []int{0, 1, 7, -1, -20, api.FormMost, -api.FormMost, 1234567890 % api.FormMost}[m.Intn(8)]
}

// randomProgram makes programs until one of them is formed.
func randomProgram(r *rand.Rand) api.FormProg {
	for {
		if p := tryProgram(r); shape.Check(p) == api.OK {
			return p
		}
	}
}

func tryProgram(r *rand.Rand) (p api.FormProg) {
	m := maker{Rand: r, gens: map[string]int{"go": 1 + r.Intn(3), "show": 1 + r.Intn(3)}}
	has := map[string][]string{}
	for i := range r.Intn(5) {
		c := api.FormClass{Name: string(rune('p' + i))}
		for _, above := range m.classes {
			if r.Intn(2) == 0 {
				c.Parents = append(c.Parents, above)
				has[c.Name] = append(has[c.Name], has[above]...)
			}
		}
		for j := range r.Intn(3) {
			c.Slots = append(c.Slots, c.Name+string(rune('a'+j)))
		}
		has[c.Name] = append(has[c.Name], c.Slots...)
		slices.Sort(has[c.Name])
		for _, slot := range slices.Compact(has[c.Name]) {
			if r.Intn(3) == 0 {
				c.Inits = append(c.Inits, api.FormInit{Slot: slot, N: m.number()})
			}
		}
		r.Shuffle(len(c.Parents), func(i, j int) { c.Parents[i], c.Parents[j] = c.Parents[j], c.Parents[i] })
		p.Classes, m.classes, m.slots = append(p.Classes, c), append(m.classes, c.Name), append(m.slots, c.Slots...)
	}
	for range r.Intn(5) {
		p.Methods = append(p.Methods, m.method())
	}
	p.Main = m.exp(1+r.Intn(6), nil, false)
	return p
}

func (m maker) method() (out api.FormMethod) {
	out.Kind = api.FormPrimary + api.FormKind(m.Intn(4))
	out.Name = pick(m.Rand, "go", "show")
	out.Params = []string{"x", "y", "longname"}[:m.gens[out.Name]]
	out.Fact = m.fact(m.Intn(5), out.Params)
	out.Body = m.exp(1+m.Intn(5), out.Params, out.Kind == api.FormPrimary || out.Kind == api.FormAround)
	return out
}

func (m maker) fact(depth int, params []string) api.FormFact {
	f := api.FormFact{Name: pick(m.Rand, params...)}
	for len(m.slots) > 0 && len(f.Path) < api.FormPath && m.Intn(2) == 0 {
		f.Path = append(f.Path, pick(m.Rand, m.slots...))
	}
	kind := m.Intn(7)
	if depth < 2 {
		kind = m.Intn(4)
	}
	switch kind {
	case 0:
		return facts(api.FactTrue)
	case 1:
		f.Op, f.Class = api.FactIs, pick(m.Rand, append([]string{"any", "int", "none"}, m.classes...)...)
		return f
	case 2:
		f.Op, f.N = api.FactLess, m.number()
		return f
	case 3:
		f.Op, f.N = api.FactSame, m.number()
		return f
	case 4:
		return facts(api.FactNot, m.fact(depth-1, params))
	}
	return facts(api.FactAnd+api.FactOp(kind-5), m.fact(depth-1, params), m.fact(depth-1, params))
}

func (m maker) leaf(scope []string, next bool) api.FormExp {
	switch kind := m.Intn(5); {
	case kind == 0 && len(m.classes) > 0:
		return exp(api.FormNew, pick(m.Rand, m.classes...))
	case kind == 1 && next:
		return exp(api.FormNext, "")
	case kind == 2:
		return exp(api.FormNone, "")
	case kind > 2 && len(scope) > 0:
		return name(pick(m.Rand, scope...))
	}
	return num(m.number())
}

func (m maker) exp(depth int, scope []string, next bool) api.FormExp {
	if depth < 2 {
		return m.leaf(scope, next)
	}
	kid := func() api.FormExp { return m.exp(depth-1-m.Intn(2), scope, next) }
	switch kind := m.Intn(15); {
	case kind == 0 && len(m.slots) > 0:
		return exp(api.FormSlot, pick(m.Rand, m.slots...), kid())
	case kind == 1 && len(m.slots) > 0:
		return exp(api.FormSet, pick(m.Rand, m.slots...), kid(), kid())
	case kind == 2 && len(m.classes) > 0:
		return exp(api.FormTurn, pick(m.Rand, m.classes...), kid())
	case kind == 3:
		gen := pick(m.Rand, "go", "show")
		return exp(api.FormCall, gen, tidied(make([]api.FormExp, m.gens[gen]), func(api.FormExp) api.FormExp { return kid() })...)
	case kind == 4:
		return exp(api.FormOut, "", kid())
	case kind == 5:
		return exp(api.FormIf, "", kid(), kid(), kid())
	case kind == 6 || kind == 7:
		s := pick(m.Rand, "x", "z", "letter")
		return exp(api.FormLet, s, kid(), m.exp(depth-1, append(slices.Clone(scope), s), next))
	}
	ops := []api.FormOp{api.FormSeq, api.FormAdd, api.FormSub, api.FormMul, api.FormLess, api.FormSame}
	return exp(ops[m.Intn(len(ops))], "", kid(), kid())
}

// writer writes programs with more brackets than they need, and notes of which
// tokens each node consists.
type writer struct {
	*rand.Rand
	tokens []string
	spots  []api.ReadSpot // numbers of tokens; without tokens: the one behind which
}

func (w *writer) say(l ...string) { w.tokens = append(w.tokens, l...) }

// node notes what is written as a node, ahead of those in it.
func (w *writer) node(write func()) {
	i := len(w.spots)
	w.spots = append(w.spots, api.ReadSpot{From: len(w.tokens)})
	write()
	w.spots[i].To = len(w.tokens)
}

// pairs writes what needs brackets, or has some.
func (w *writer) pairs(need bool, write func()) {
	n := 0
	if need {
		n = 1
	}
	for w.Intn(4) == 0 {
		n++
	}
	for range n {
		w.say("(")
	}
	write()
	for range n {
		w.say(")")
	}
}

func integer(n int) string { return strings.Replace(strconv.Itoa(n), "-", "~", 1) }

func (w *writer) program(p api.FormProg) {
	for _, c := range p.Classes {
		w.node(func() { w.class(c) })
	}
	for _, m := range p.Methods {
		w.node(func() { w.method(m) })
	}
	w.say("then")
	w.exp(p.Main, false)
}

func (w *writer) names(l []string) {
	w.say(strings.Split(strings.Join(l, "\x00,\x00"), "\x00")...)
}

func (w *writer) class(c api.FormClass) {
	w.say("class", c.Name)
	if len(c.Parents) > 0 {
		w.say(":")
		w.names(c.Parents)
	}
	if len(c.Slots) > 0 {
		w.say("{")
		w.names(c.Slots)
		w.say("}")
	}
	for i, init := range c.Inits {
		w.say([]string{"[", ","}[min(i, 1)], init.Slot, "=", integer(init.N))
	}
	if len(c.Inits) > 0 {
		w.say("]")
	}
}

func (w *writer) method(m api.FormMethod) {
	w.say([]string{"", "method", "before", "after", "around"}[m.Kind], m.Name, "(")
	w.names(m.Params)
	w.say(")")
	if m.Fact.Op == api.FactTrue && w.Intn(2) == 0 {
		w.node(func() {})
	} else {
		w.say("where")
		w.fact(m.Fact, false)
	}
	w.say("{")
	w.exp(m.Body, false)
	w.say("}")
}

func (w *writer) fact(f api.FormFact, tight bool) {
	need := tight && (f.Op == api.FactAnd || f.Op == api.FactOr)
	w.pairs(need, func() { w.node(func() { w.bareFact(f) }) })
}

func (w *writer) bareFact(f api.FormFact) {
	path := strings.Split(strings.Join(append([]string{f.Name}, f.Path...), "\x00.\x00"), "\x00")
	switch f.Op {
	case api.FactTrue:
		w.say("true")
	case api.FactIs:
		w.say(append(path, "is", f.Class)...)
	case api.FactLess:
		w.say(append(path, "<", integer(f.N))...)
	case api.FactSame:
		w.say(append(path, "=", integer(f.N))...)
	case api.FactNot:
		w.say("not")
		w.fact(f.Kids[0], true)
	default:
		w.fact(f.Kids[0], true)
		w.say([]string{"and", "or"}[f.Op-api.FactAnd])
		w.fact(f.Kids[1], true)
	}
}

// exp writes an expression; where a sign stands beside it, all but an Atom
// have brackets.
func (w *writer) exp(e api.FormExp, tight bool) {
	need := tight && strings.Contains("let ; < = + - * .", signOf(e))
	w.pairs(need, func() { w.node(func() { w.bareExp(e) }) })
}

func signOf(e api.FormExp) string {
	return map[api.FormOp]string{api.FormLet: "let", api.FormSlot: ".", api.FormSeq: ";", api.FormAdd: "+", api.FormSub: "-",
		api.FormMul: "*", api.FormLess: "<", api.FormSame: "=", api.FormTurn: "turn", api.FormSet: "set", api.FormOut: "out",
		api.FormIf: "if", api.FormNone: "none", api.FormNext: "next", api.FormNew: "new", api.FormInt: "0", api.FormName: "a",
		api.FormCall: "a"}[e.Op]
}

func (w *writer) bareExp(e api.FormExp) {
	switch e.Op {
	case api.FormInt:
		w.say(integer(e.N))
	case api.FormNone, api.FormNext:
		w.say(signOf(e))
	case api.FormName:
		w.say(e.Text)
	case api.FormNew:
		w.say("new", e.Text)
	case api.FormLet:
		w.say("let", e.Text, "=")
		w.exp(e.Kids[0], false)
		w.say("in")
		w.exp(e.Kids[1], false)
	case api.FormIf:
		w.say("if")
		w.exp(e.Kids[0], false)
		w.say("{")
		w.exp(e.Kids[1], false)
		w.say("}", "else", "{")
		w.exp(e.Kids[2], false)
		w.say("}")
	case api.FormSlot:
		w.exp(e.Kids[0], true)
		w.say(".", e.Text)
	case api.FormCall, api.FormTurn, api.FormSet, api.FormOut:
		if e.Op != api.FormCall {
			w.say(signOf(e))
		}
		if e.Text != "" {
			w.say(e.Text)
		}
		for i, kid := range e.Kids {
			w.say([]string{"(", ","}[min(i, 1)])
			w.exp(kid, false)
		}
		w.say(")")
	default:
		w.exp(e.Kids[0], true)
		w.say(signOf(e))
		w.exp(e.Kids[1], e.Op != api.FormSeq)
	}
}

// strew puts random blanks and remarks between tokens, as few as none; it
// returns where the tokens begin and end.
func strew(r *rand.Rand, tokens []string) (text string, at, behind []int) {
	gaps := []string{" ", "\t", "\n", "  ", "%\n", "% then { \xff\n", " %%x\n\t"}
	last := ""
	for _, s := range tokens {
		for r.Intn(3) == 0 {
			text += pick(r, gaps...)
		}
		if last != "" && strings.HasSuffix(text, last) && grow(last, s) {
			text += pick(r, gaps...)
		}
		at = append(at, len(text))
		text += s
		behind = append(behind, len(text))
		last = s
	}
	if r.Intn(2) == 0 {
		text += pick(r, " ", "\n", "% the end", "%")
	}
	return text, at, behind
}

// grow tells whether two tokens become another one without a blank.
func grow(a, b string) bool {
	letter := func(c byte) bool { return 'a' <= c && c <= 'z' }
	digit := func(c byte) bool { return '0' <= c && c <= '9' }
	end := a[len(a)-1]
	return letter(end) && letter(b[0]) || digit(end) && digit(b[0])
}

func want[T any](t *testing.T, what string, got, want T) {
	t.Helper()
	if !reflect.DeepEqual(got, want) {
		t.Errorf("%s:\n got %+v\nwant %+v", what, got, want)
	}
}
