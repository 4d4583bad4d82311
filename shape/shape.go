// Package shape is layer 1: programs as trees, which of them are formed, and what stands in place of names.
package shape

import (
	"slices"

	"consort/api"
)

// Check returns ErrArg for a program that is not formed.
func Check(p api.FormProg) api.Errno {
	return attempt(func() { examineProgram(p) })
}

// CheckExp returns ErrArg for an expression that is not formed.
func CheckExp(e api.FormExp) api.Errno {
	return attempt(func() { alone().examine(exp(e)) })
}

// CheckFact returns ErrArg for a fact that is not formed alone.
func CheckFact(f api.FormFact) api.Errno {
	return attempt(func() { alone().examine(fact(f)) })
}

// Nodes returns how many classes and nodes a program has together.
func Nodes(p api.FormProg) (int, api.Errno) {
	if e := Check(p); e != api.OK {
		return 0, e
	}
	n := 0
	for q := range nodes(program(p)) {
		switch q.(type) {
		case class, fact, exp:
			n++
		}
	}
	return n, api.OK
}

// Depth returns the depth of an expression.
func Depth(e api.FormExp) (int, api.Errno) {
	if err := CheckExp(e); err != api.OK {
		return 0, err
	}
	most := 0
	for _, depth := range nodes(exp(e)) {
		most = max(most, depth)
	}
	return most, api.OK
}

// Gens returns the functions of a program.
func Gens(p api.FormProg) ([]string, api.Errno) {
	if e := Check(p); e != api.OK {
		return nil, e
	}
	var l []string
	for _, m := range p.Methods {
		l = append(l, m.Name)
	}
	for q := range nodes(program(p)) {
		if x, ok := q.(exp); ok && x.Op == api.FormCall {
			l = append(l, x.Text)
		}
	}
	return once(l), api.OK
}

// Slots returns the slots of a program, class by class.
func Slots(p api.FormProg) ([]string, api.Errno) {
	if e := Check(p); e != api.OK {
		return nil, e
	}
	var l []string
	for _, c := range p.Classes {
		l = append(l, c.Slots...)
	}
	return l, api.OK
}

// Above returns the classes that are above one, in the order of the program.
func Above(p api.FormProg, class string) ([]string, api.Errno) {
	if e := Check(p); e != api.OK {
		return nil, e
	}
	isIt := func(c api.FormClass) bool { return c.Name == class }
	if !slices.ContainsFunc(p.Classes, isIt) {
		return nil, api.ErrArg
	}
	above := map[string]bool{}
	// Parents stand ahead of their heirs, so that one walk from the end finds all.
	for _, c := range slices.Backward(p.Classes) {
		if c.Name == class || above[c.Name] {
			for _, parent := range c.Parents {
				above[parent] = true
			}
		}
	}
	var l []string
	for _, c := range p.Classes {
		if above[c.Name] {
			l = append(l, c.Name)
		}
	}
	return l, api.OK
}
