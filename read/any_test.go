package read_test

import (
	"math/rand"
	"strings"
	"testing"

	"consort/api"
	"consort/read"
)

// TestDeepTexts reads the longest texts that go deepest, or on and on.
func TestDeepTexts(t *testing.T) {
	for _, piece := range []string{"(", "not ", "1+", "1*", "a.", "a(", "a;", "let a=", "let a=a in ", "if ", "if a{", "out(", "set a(", "turn a(", "a=",
		"true and ", "true or ", "x.", "%\n", "~", "class ", "class a ", "then ", "then a ", "method a(a){a}", ")", "a ", "", "9"} {
		for _, ahead := range []string{"then ", "method f(x) where ", "method f(x) {"} {
			s := ahead
			if piece != "" {
				s += strings.Repeat(piece, (api.ReadLong-len(ahead))/len(piece))
			}
			_, e := read.Fault(s)
			if e != api.OK && e != api.ErrNone {
				t.Errorf("%q and %q: %v", ahead, piece, e)
			}
			read.Next(s)
			read.Mend(s)
			read.Parse(s)
			read.Spots(s)
			read.Exp(s)
		}
	}
}

func TestAnyBytes(t *testing.T) {
	r := rand.New(rand.NewSource(9))
	for range 3000 {
		b := make([]byte, r.Intn(60))
		r.Read(b)
		s := string(b)
		fault, e := read.Fault(s)
		if e != api.OK {
			t.Errorf("%q has no fault: %v", s, e)
		}
		if next, e := read.Next(s[:fault.At]); e != api.OK || len(next) == 0 {
			t.Errorf("nothing can come next ahead of %+v in %q: %v", fault, s, e)
		}
		read.Mend(s)
		read.Next(s)
		read.Exp(s)
	}
}

// TestEndlessArguments prints what has no end: it is not formed.
func TestEndlessArguments(t *testing.T) {
	ring := make([]api.FormExp, 1)
	ring[0] = api.FormExp{Op: api.FormOut, Kids: ring}
	shared := num(1)
	for range 60 {
		shared = exp(api.FormAdd, "", shared, shared)
	}
	ringFact := make([]api.FormFact, 1)
	ringFact[0] = api.FormFact{Op: api.FactNot, Kids: ringFact}
	for _, x := range []api.FormExp{ring[0], shared, {Op: api.FormCall, Text: "f", Kids: make([]api.FormExp, 1<<20)}} {
		_, e1 := read.PrintExp(x)
		_, e2 := read.Print(api.FormProg{Main: x})
		want(t, "errors", []api.Errno{e1, e2}, []api.Errno{api.ErrArg, api.ErrArg})
	}
	p := example()
	p.Methods[0].Fact = ringFact[0]
	_, e1 := read.Print(p)
	_, e2 := read.Print(api.FormProg{Classes: make([]api.FormClass, 1<<20)})
	want(t, "errors", []api.Errno{e1, e2}, []api.Errno{api.ErrArg, api.ErrArg})
}

// TestResultsAreApart changes results, and asks again.
func TestResultsAreApart(t *testing.T) {
	for range 2 {
		tokens, _ := read.Tokens(source)
		next, _ := read.Next("then")
		spots, _ := read.Spots(source)
		p, _ := read.Parse(source)
		q, _, _ := read.Mend(source)
		x, _ := read.Exp("go(a, b).f")
		want(t, "token", tokens[1].Text, "a")
		want(t, "next", next[0], "0")
		want(t, "spot", spots[0].To, 23)
		want(t, "expression", tidyExp(x), exp(api.FormSlot, "f", exp(api.FormCall, "go", name("a"), name("b"))))
		if !alike(p, example()) || !alike(q, example()) {
			t.Error("another program")
		}
		clear(tokens)
		clear(next)
		clear(spots)
		clear(x.Kids[0].Kids)
		clear(p.Classes[0].Slots)
		clear(p.Methods[0].Params)
		clear(p.Methods[1].Fact.Path)
		clear(p.Methods)
	}
}

// TestNoSharing adds to each list of a program: no other one changes.
func TestNoSharing(t *testing.T) {
	p, _ := read.Parse(source)
	for i := range p.Classes {
		c := &p.Classes[i]
		_ = append(c.Parents, "z")
		_ = append(c.Slots, "z")
		_ = append(c.Inits, api.FormInit{Slot: "z"})
	}
	for _, m := range p.Methods {
		_ = append(m.Params, "z")
		_ = append(m.Fact.Path, "z")
		_ = append(m.Body.Kids, num(9))
	}
	if !alike(p, example()) {
		t.Errorf("lists share memory: %+v", p)
	}
}
