package read

import (
	"strconv"
	"strings"

	"consort/api"
	"consort/shape"
)

// printer writes tokens, with blanks between them.
type printer struct {
	strings.Builder
	last string // the token that was written last
}

// say writes tokens.
func (p *printer) say(tokens ...string) {
	for _, s := range tokens {
		if p.last != "" && !tight(p.last, s) {
			p.WriteString(" ")
		}
		p.WriteString(s)
		p.last = s
	}
}

// tight reports whether there is no blank between two tokens.
func tight(a, b string) bool {
	switch b {
	case ".", ")", ",", ";":
		return true
	case "(":
		return a == "(" || a == "out" || shape.Name(a)
	}
	return a == "." || a == "("
}

// sayAll writes what stands for the elements of a list, with commas between them.
func sayAll[T any](p *printer, l []T, say func(T)) {
	for i, x := range l {
		if i > 0 {
			p.say(",")
		}
		say(x)
	}
}

func (p *printer) word(s string) { p.say(s) }

func (p *printer) number(n int) {
	p.say(strings.Replace(strconv.Itoa(n), "-", "~", 1))
}

func (p *printer) program(prog api.FormProg) {
	for _, c := range prog.Classes {
		p.class(c)
	}
	for _, m := range prog.Methods {
		p.method(m)
	}
	p.say("then")
	p.exp(prog.Main, expLevel)
}

func (p *printer) class(c api.FormClass) {
	p.say("class", c.Name)
	if len(c.Parents) > 0 {
		p.say(":")
		sayAll(p, c.Parents, p.word)
	}
	if len(c.Slots) > 0 {
		p.say("{")
		sayAll(p, c.Slots, p.word)
		p.say("}")
	}
	if len(c.Inits) > 0 {
		p.say("[")
		sayAll(p, c.Inits, p.init)
		p.say("]")
	}
}

func (p *printer) init(i api.FormInit) {
	p.say(i.Slot, "=")
	p.number(i.N)
}

func (p *printer) method(m api.FormMethod) {
	p.say(kindWord(m.Kind), m.Name, "(")
	sayAll(p, m.Params, p.word)
	p.say(")")
	if m.Fact.Op != api.FactTrue {
		p.say("where")
		p.fact(m.Fact, factLevel)
	}
	p.say("{")
	p.exp(m.Body, expLevel)
	p.say("}")
}

func kindWord(k api.FormKind) string {
	switch k {
	case api.FormBefore:
		return "before"
	case api.FormAfter:
		return "after"
	case api.FormAround:
		return "around"
	}
	return "method"
}

// fact writes a fact where the grammar asks for one of a level.
func (p *printer) fact(f api.FormFact, asked level) {
	own := factLevelOf(f.Op)
	if own < asked {
		p.say("(")
	}
	switch f.Op {
	case api.FactTrue:
		p.say("true")
	case api.FactNot:
		p.say("not")
		p.fact(f.Kids[0], oneLevel)
	case api.FactAnd, api.FactOr:
		j := factJoint(f.Op)
		p.fact(f.Kids[0], j.left)
		p.say(j.sign)
		p.fact(f.Kids[1], j.right)
	default:
		p.test(f)
	}
	if own < asked {
		p.say(")")
	}
}

func factLevelOf(op api.FactOp) level {
	if j := factJoint(op); j.sign != "" {
		return j.own
	}
	return oneLevel
}

func (p *printer) test(f api.FormFact) {
	p.say(f.Name)
	for _, slot := range f.Path {
		p.say(".", slot)
	}
	switch f.Op {
	case api.FactIs:
		p.say("is", f.Class)
	case api.FactLess:
		p.say("<")
		p.number(f.N)
	case api.FactSame:
		p.say("=")
		p.number(f.N)
	}
}
