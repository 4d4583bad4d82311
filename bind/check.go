package bind

import (
	"slices"

	"consort/api"
	"consort/fact"
	"consort/line"
)

// unformed is what an examination gives up with.
type unformed struct{}

func need(is bool) {
	if !is {
		panic(unformed{})
	}
}

// unmet is the size of the environment of a node that was not met yet.
const unmet = -1

// open returns a program, unless it is not formed. Whatever an examination
// gives up with stays inside, for no exported function may panic.
func open(p api.BindProg) (o *program, e api.Errno) {
	defer func() {
		if recover() != nil {
			o, e = nil, api.ErrArg
		}
	}()
	o = &program{BindProg: p}
	o.examineClasses()
	o.examineMethods()
	o.examineNodes()
	return o, api.OK
}

func (p *program) examineClasses() {
	need(len(p.Classes) <= api.FormClasses)
	p.graph = parents(p.Classes)
	// With a graph that is not formed the error is another one, with a class
	// that has no linear order there is none.
	_, _, e := line.Conflict(p.graph)
	need(e == api.ErrNone)
	for i, c := range p.Classes {
		need(len(c.Slots) <= api.FormSlots)
		for _, slot := range c.Slots {
			need(slot == len(p.owner))
			p.owner = append(p.owner, firstClass+i)
		}
		p.examineInits(firstClass + i)
	}
	need(p.Slots == len(p.owner))
}

func (p *program) examineInits(class int) {
	has, inits := p.has(class), p.Classes[class-firstClass].Inits
	for i, init := range inits {
		isFor := func(other api.BindInit) bool { return other.Slot == init.Slot }
		need(slices.Contains(has, init.Slot) && slices.IndexFunc(inits, isFor) == i)
		need(isInteger(init.N))
	}
}

func (p *program) examineMethods() {
	need(len(p.Gens) <= api.FormGens && len(p.Methods) <= api.FormMethods)
	for _, args := range p.Gens {
		need(1 <= args && args <= api.FormArgs)
	}
	world := api.FactWorld{Parents: p.graph, Owner: p.owner}
	for _, m := range p.Methods {
		need(api.FormPrimary <= m.Kind && m.Kind <= api.FormAround)
		need(isIndex(m.Gen, len(p.Gens)))
		need(fact.Formed(world, m.Fact) == api.OK && speaksOf(m.Fact, p.Gens[m.Gen]))
	}
}

// speaksOf reports whether a fact speaks of no more arguments than so many.
// What speaks of none has the Arg 0, which stands for one that there always is.
func speaksOf(f api.Fact, args int) bool {
	is := func(kid api.Fact) bool { return speaksOf(kid, args) }
	return f.Arg < args && every(f.Kids, is)
}

func (p *program) examineNodes() {
	need(1 <= len(p.Nodes) && len(p.Nodes) <= api.FormNodes)
	p.sizes = slices.Repeat([]int{unmet}, len(p.Nodes))
	for _, m := range p.Methods {
		next := m.Kind == api.FormPrimary || m.Kind == api.FormAround
		p.examineBody(m.Node, p.Gens[m.Gen], next)
	}
	p.examineBody(p.Main, 0, false)
	need(!slices.Contains(p.sizes, unmet))
}

// examineBody gives up unless all nodes below one are formed, and none of them
// was met before. Next says whether a next method can be asked for.
func (p *program) examineBody(root, size int, next bool) {
	for at, s := range below(p.Nodes, root, size) {
		need(isIndex(at, len(p.Nodes)) && p.sizes[at] == unmet && s.depth <= api.FormDepth)
		p.sizes[at] = s.size
		p.examineNode(p.Nodes[at], s.size)
		need(next || p.Nodes[at].Op != api.FormNext)
	}
}

func (p *program) examineNode(n api.BindNode, size int) {
	has := hasOf(n.Op)
	switch has.(type) {
	case nil:
		need(false)
	case integer:
		need(isInteger(n.N))
	case place:
		need(isIndex(n.N, size))
	case slot:
		need(isIndex(n.N, p.Slots))
	case gen:
		need(isIndex(n.N, len(p.Gens)))
	case class:
		need(p.isClass(n.N))
	default:
		need(n.N == 0)
	}
	need(len(n.Kids) == has.kids(p.BindProg, n.N))
}

func isInteger(n int) bool { return -api.FormMost <= n && n <= api.FormMost }

func isIndex(n, length int) bool { return 0 <= n && n < length }
