package read

import "consort/api"

// exp writes an expression where the grammar asks for one of a level.
func (p *printer) exp(e api.FormExp, asked level) {
	own := expLevelOf(e.Op)
	if own < asked {
		p.say("(")
	}
	if j := expJoint(e.Op); j.sign != "" {
		p.exp(e.Kids[0], j.left)
		p.say(j.sign)
		p.exp(e.Kids[1], j.right)
	} else {
		p.unjoined(e)
	}
	if own < asked {
		p.say(")")
	}
}

func expLevelOf(op api.FormOp) level {
	switch op {
	case api.FormLet:
		return expLevel
	case api.FormSlot:
		return placeLevel
	}
	if j := expJoint(op); j.sign != "" {
		return j.own
	}
	return atomLevel
}

// unjoined writes an expression whose Kids no sign joins.
func (p *printer) unjoined(e api.FormExp) {
	switch e.Op {
	case api.FormInt:
		p.number(e.N)
	case api.FormNone:
		p.say("none")
	case api.FormNext:
		p.say("next")
	case api.FormName:
		p.say(e.Text)
	case api.FormSlot:
		p.exp(e.Kids[0], placeLevel)
		p.say(".", e.Text)
	case api.FormCall:
		p.say(e.Text)
		p.kids(e)
	case api.FormNew:
		p.say("new", e.Text)
	case api.FormTurn:
		p.say("turn", e.Text)
		p.kids(e)
	case api.FormSet:
		p.say("set", e.Text)
		p.kids(e)
	case api.FormOut:
		p.say("out")
		p.kids(e)
	case api.FormLet:
		p.say("let", e.Text, "=")
		p.exp(e.Kids[0], expLevel)
		p.say("in")
		p.exp(e.Kids[1], expLevel)
	case api.FormIf:
		p.say("if")
		p.exp(e.Kids[0], expLevel)
		p.branch(e.Kids[1])
		p.say("else")
		p.branch(e.Kids[2])
	}
}

// kids writes the Kids of an expression in brackets.
func (p *printer) kids(e api.FormExp) {
	p.say("(")
	sayAll(p, e.Kids, func(kid api.FormExp) { p.exp(kid, expLevel) })
	p.say(")")
}

func (p *printer) branch(e api.FormExp) {
	p.say("{")
	p.exp(e, expLevel)
	p.say("}")
}
