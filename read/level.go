package read

import "consort/api"

// level is how tightly an expression, or a fact, holds together: where the
// grammar asks for one of a level, one of a lower level needs brackets.
type level int

// The levels of expressions.
const (
	expLevel level = iota
	sideLevel
	sumLevel
	productLevel
	placeLevel
	atomLevel
)

// The levels of facts.
const (
	factLevel level = iota
	bothLevel
	oneLevel
)

// joint is what stands between two Kids, and of which level they and what they
// become are.
type joint struct {
	sign             string
	own, left, right level
}

// expJoint returns what joins the Kids of an expression; no sign, if it is not
// written between them.
func expJoint(op api.FormOp) joint {
	switch op {
	case api.FormSeq:
		return joint{";", expLevel, sideLevel, expLevel}
	case api.FormLess:
		return joint{"<", sideLevel, sumLevel, sumLevel}
	case api.FormSame:
		return joint{"=", sideLevel, sumLevel, sumLevel}
	case api.FormAdd:
		return joint{"+", sumLevel, sumLevel, productLevel}
	case api.FormSub:
		return joint{"-", sumLevel, sumLevel, productLevel}
	case api.FormMul:
		return joint{"*", productLevel, productLevel, placeLevel}
	}
	return joint{}
}

// joined returns the expression that a sign makes of its Kids.
func joined(sign string) api.FormExp {
	op := api.FormSeq
	for expJoint(op).sign != sign {
		op++
	}
	return api.FormExp{Op: op}
}

func factJoint(op api.FactOp) joint {
	switch op {
	case api.FactOr:
		return joint{"or", factLevel, factLevel, bothLevel}
	case api.FactAnd:
		return joint{"and", bothLevel, bothLevel, oneLevel}
	}
	return joint{}
}

func joinedFact(word string) api.FormFact {
	if word == "or" {
		return api.FormFact{Op: api.FactOr}
	}
	return api.FormFact{Op: api.FactAnd}
}
