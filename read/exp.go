package read

import (
	"strconv"
	"strings"

	"consort/api"
)

type expNode = node[api.FormExp]

// chain reads what is joined by some signs, from the left.
func chain[T any](r *reader, read func() *node[T], joined func(sign string) T, signs ...string) *node[T] {
	left := read()
	for r.sees(signs...) {
		left = join(r, left, read, joined)
	}
	return left
}

// join reads a sign and what it joins to what stands ahead of it.
func join[T any](r *reader, left *node[T], read func() *node[T], joined func(sign string) T) *node[T] {
	sign := r.take().Text
	right := read()
	return made(r, left.wide.From, joined(sign), left, right)
}

func (r *reader) exp() *expNode {
	if r.sees("let") {
		return r.let()
	}
	left := r.side()
	if r.sees(";") {
		return join(r, left, r.exp, joined)
	}
	return left
}

func (r *reader) let() *expNode {
	from := r.need("let").At
	name := r.name()
	r.need("=")
	value := r.exp()
	r.need("in")
	rest := r.exp()
	return made(r, from, api.FormExp{Op: api.FormLet, Text: name}, value, rest)
}

func (r *reader) side() *expNode {
	left := r.sum()
	if r.sees("<", "=") {
		return join(r, left, r.sum, joined)
	}
	return left
}

func (r *reader) sum() *expNode { return chain(r, r.product, joined, "+", "-") }

func (r *reader) product() *expNode { return chain(r, r.place, joined, "*") }

func (r *reader) place() *expNode {
	n := r.atom()
	for r.reads(".") {
		slot := r.name()
		n = made(r, n.wide.From, api.FormExp{Op: api.FormSlot, Text: slot}, n)
	}
	return n
}

func (r *reader) atom() *expNode {
	if r.sees("(") {
		return bracketed(r, r.exp)
	}
	if r.sees(anyInt) {
		from := r.first().At
		n := r.number()
		return made(r, from, api.FormExp{Op: api.FormInt, N: n})
	}
	t := r.need("none", "next", anyName, "new", "turn", "set", "out", "if")
	e := api.FormExp{}
	var kids []*expNode
	switch t.Text {
	case "none":
		e.Op = api.FormNone
	case "next":
		e.Op = api.FormNext
	case "new":
		e.Op, e.Text = api.FormNew, r.name()
	case "turn":
		e.Op, e.Text = api.FormTurn, r.name()
		kids = r.kids(1)
	case "set":
		e.Op, e.Text = api.FormSet, r.name()
		kids = r.kids(2)
	case "out":
		e.Op = api.FormOut
		kids = r.kids(1)
	case "if":
		e.Op = api.FormIf
		kids = r.branches()
	default:
		e.Op, e.Text = api.FormName, t.Text
		if r.sees("(") {
			e.Op = api.FormCall
			kids = inside(r, r.exp, "(", ")")
		}
	}
	return made(r, t.At, e, kids...)
}

// kids reads a number of expressions in a pair of brackets.
func (r *reader) kids(n int) []*expNode {
	r.need("(")
	l := []*expNode{r.exp()}
	for len(l) < n {
		r.need(",")
		l = append(l, r.exp())
	}
	r.need(")")
	return l
}

func (r *reader) branches() []*expNode {
	condition := r.exp()
	first := r.branch()
	r.need("else")
	second := r.branch()
	return []*expNode{condition, first, second}
}

func (r *reader) branch() *expNode {
	r.need("{")
	n := r.exp()
	r.need("}")
	return n
}

// number reads an integer; it has so few digits that none is too great.
func (r *reader) number() int {
	s := r.need(anyInt).Text
	n, _ := strconv.Atoi(strings.Replace(s, "~", "-", 1))
	return n
}
