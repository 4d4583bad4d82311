package shape

import (
	"maps"

	"consort/api"
)

// unformed is what an examination gives up with.
type unformed struct{}

func need(is bool) {
	if !is {
		panic(unformed{})
	}
}

// attempt returns ErrArg if an examination gives up. Whatever it gave up with
// stays inside, for no exported function may panic.
func attempt(examine func()) (e api.Errno) {
	defer func() {
		if recover() != nil {
			e = api.ErrArg
		}
	}()
	examine()
	return api.OK
}

// global is the scope of a program: what its names stand for, and how many
// nodes were met in it.
type global struct {
	open  bool                       // every name is a class, a slot, a parameter and a function
	slots map[string]bool            // the slots of the program
	has   map[string]map[string]bool // for each class the slots of its objects
	args  map[string]int             // for each function that was met how many arguments it has
	nodes int
}

// local is the scope of a method, or of Main, in that of the program.
type local struct {
	*global
	params map[string]bool
	next   bool // whether a next method can be asked for
}

// alone returns the scope of what stands in no program.
func alone() *local { return &local{global: &global{open: true}, next: true} }

func (g *global) isClass(s string) bool {
	return g.has[s] != nil || g.open && Name(s)
}

func (g *global) isSort(s string) bool {
	return s == "any" || s == "int" || s == "none" || g.isClass(s)
}

func (g *global) isSlot(s string) bool {
	return g.slots[s] || g.open && Name(s)
}

func (s *local) isParam(name string) bool {
	return s.params[name] || s.open && Name(name)
}

// meetGen gives up unless a function has as many arguments wherever it is met.
func (g *global) meetGen(gen string, args int) {
	need(Name(gen))
	if g.open {
		return
	}
	if _, met := g.args[gen]; !met {
		g.args[gen] = args
	}
	need(g.args[gen] == args && len(g.args) <= api.FormGens)
}

func examineProgram(p api.FormProg) {
	need(len(p.Classes) <= api.FormClasses && len(p.Methods) <= api.FormMethods)
	g := &global{
		slots: map[string]bool{},
		has:   map[string]map[string]bool{},
		args:  map[string]int{},
		nodes: len(p.Classes),
	}
	for _, c := range p.Classes {
		g.addClass(c)
	}
	for _, m := range p.Methods {
		g.examineMethod(m)
	}
	main := &local{global: g}
	main.examineBody(p.Main)
}

// addClass examines a class that stands behind all those that are known, and
// is known from then on.
func (g *global) addClass(c api.FormClass) {
	need(Name(c.Name) && g.has[c.Name] == nil)
	need(len(c.Parents) <= api.FormParents && different(c.Parents))
	has := map[string]bool{}
	for _, parent := range c.Parents {
		need(g.has[parent] != nil)
		maps.Copy(has, g.has[parent])
	}
	need(len(c.Slots) <= api.FormSlots)
	for _, slot := range c.Slots {
		need(Name(slot) && !g.slots[slot])
		g.slots[slot], has[slot] = true, true
	}
	need(len(c.Inits) <= len(has) && different(each(c.Inits, slotOf)))
	for _, init := range c.Inits {
		need(has[init.Slot] && isNumber(init.N))
	}
	g.has[c.Name] = has
}

func slotOf(init api.FormInit) string { return init.Slot }

func (g *global) examineMethod(m api.FormMethod) {
	need(api.FormPrimary <= m.Kind && m.Kind <= api.FormAround)
	need(1 <= len(m.Params) && len(m.Params) <= api.FormArgs && different(m.Params))
	g.meetGen(m.Name, len(m.Params))
	s := &local{global: g, params: map[string]bool{}}
	s.next = m.Kind == api.FormPrimary || m.Kind == api.FormAround
	for _, param := range m.Params {
		need(Name(param))
		s.params[param] = true
	}
	s.examine(fact(m.Fact))
	s.examineBody(m.Body)
}

func (s *local) examineBody(e api.FormExp) {
	s.examine(exp(e))
	for name := range freeNames(e) {
		need(s.params[name])
	}
}

// examine gives up unless a fact or an expression is formed in a scope.
func (s *local) examine(root part) {
	for p, depth := range nodes(root) {
		s.nodes++
		need(s.nodes <= api.FormNodes && depth <= api.FormDepth)
		switch x := p.(type) {
		case fact:
			s.examineFact(x)
		case exp:
			s.examineExp(x)
		}
	}
}

func isNumber(n int) bool { return -api.FormMost <= n && n <= api.FormMost }
