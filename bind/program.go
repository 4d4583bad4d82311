package bind

import (
	"slices"

	"consort/api"
	"consort/line"
)

// firstClass is the first class of a program's own.
const firstClass = api.BindMeta

// program is a program by numbers that is formed, and what was learnt about it.
type program struct {
	api.BindProg
	graph [][]int // the parents of its classes
	owner []int   // of each slot the class whose own it is
	sizes []int   // of each node how many places its environment has
}

// openClass returns a program, unless it is not formed or does not have a class.
func openClass(p api.BindProg, class int) (*program, api.Errno) {
	o, e := open(p)
	if e == api.OK && !o.isClass(class) {
		return nil, api.ErrArg
	}
	return o, e
}

func (p *program) isClass(class int) bool {
	return class >= firstClass && isIndex(class-firstClass, len(p.Classes))
}

func parents(l []api.BindClass) [][]int {
	return each(l, func(c api.BindClass) []int { return c.Parents })
}

// has returns the slots that a class has. They are increasing, because slots
// are numbered class by class.
func (p *program) has(class int) []int {
	var l []int
	above, _ := line.Above(p.graph, class)
	for _, c := range above {
		if c >= firstClass {
			l = append(l, p.Classes[c-firstClass].Slots...)
		}
	}
	return l
}

// begin returns with what slots of a class begin that do not begin with none.
func (p *program) begin(class int) []api.BindInit {
	var l []api.BindInit
	order, _ := line.Lin(p.graph, class)
	for _, slot := range p.has(class) {
		if init, begins := p.firstInit(order, slot); begins {
			l = append(l, init)
		}
	}
	return l
}

// firstInit returns the Init for a slot of the first class in an order that
// has one, and whether there is one.
func (p *program) firstInit(order []int, slot int) (api.BindInit, bool) {
	isFor := func(init api.BindInit) bool { return init.Slot == slot }
	for _, c := range order {
		if c < firstClass {
			continue
		}
		inits := p.Classes[c-firstClass].Inits
		if i := slices.IndexFunc(inits, isFor); i >= 0 {
			return inits[i], true
		}
	}
	return api.BindInit{}, false
}
