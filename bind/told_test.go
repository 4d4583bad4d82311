package bind_test

import (
	"fmt"
	"slices"

	"consort/api"
	"consort/fact"
	"consort/line"
	"consort/shape"
)

// What the definitions of the chapter say, followed word by word: nodes are
// looked at one by one, each from below.

// user is a place where a node is used: as a Kid of a node, as the Node of a
// method (node -1), or as Main (node and method -1).
type user struct{ node, kid, method int }

func users(p api.BindProg, at int) []user {
	var l []user
	for i, n := range p.Nodes {
		for k, kid := range n.Kids {
			if kid == at {
				l = append(l, user{i, k, -1})
			}
		}
	}
	for i, m := range p.Methods {
		if m.Node == at {
			l = append(l, user{-1, 0, i})
		}
	}
	if p.Main == at {
		l = append(l, user{-1, 0, -1})
	}
	return l
}

// line goes up from a node: the uses of it, of the node whose Kid it is, and so
// on. It has no end that is a method or Main if the nodes go round in a ring.
func lineUp(p api.BindProg, at int) ([]user, bool) {
	var l []user
	for range len(p.Nodes) + 1 {
		u := users(p, at)
		if len(u) != 1 {
			return nil, false
		}
		l = append(l, u[0])
		if at = u[0].node; at < 0 {
			return l, true
		}
	}
	return nil, false
}

// toldSize is how many places the environment of a node has.
func toldSize(p api.BindProg, up []user) int {
	size := 0
	for _, u := range up {
		switch {
		case u.node >= 0 && p.Nodes[u.node].Op == api.FormLet && u.kid == 1:
			size++
		case u.node < 0 && u.method >= 0:
			size += p.Gens[p.Methods[u.method].Gen]
		}
	}
	return size
}

func toldWorld(p api.BindProg) api.FactWorld {
	var w api.FactWorld
	for _, c := range p.Classes {
		w.Parents = append(w.Parents, c.Parents)
	}
	for slot := range p.Slots {
		for i, c := range p.Classes {
			if slices.Contains(c.Slots, slot) {
				w.Owner = append(w.Owner, 3+i)
			}
		}
	}
	return w
}

func toldAbove(p api.BindProg, class int) []int {
	l := []int{class}
	for _, parent := range p.Classes[class-3].Parents {
		l = append(l, toldAbove(p, parent)...)
	}
	return l
}

func toldHas(p api.BindProg, class int) []int {
	var l []int
	for slot := range p.Slots {
		for _, c := range toldAbove(p, class) {
			if slices.Contains(p.Classes[c-3].Slots, slot) {
				l = append(l, slot)
				break
			}
		}
	}
	return l
}

func toldBegin(p api.BindProg, class int) []api.BindInit {
	order, _ := line.Lin(toldWorld(p).Parents, class)
	var l []api.BindInit
	for _, slot := range toldHas(p, class) {
		var inits []api.BindInit
		for _, c := range order[:len(order)-1] {
			for _, init := range p.Classes[c-3].Inits {
				if init.Slot == slot {
					inits = append(inits, init)
				}
			}
		}
		if len(inits) > 0 {
			l = append(l, inits[0])
		}
	}
	return l
}

// toldFormed says whether a program is formed.
func toldFormed(p api.BindProg) bool {
	return toldClassesFormed(p) && toldMethodsFormed(p) && toldNodesFormed(p)
}

func toldClassesFormed(p api.BindProg) bool {
	var parents [][]int
	var slots []int
	for _, c := range p.Classes {
		parents = append(parents, c.Parents)
		slots = append(slots, c.Slots...)
		if len(c.Slots) > 4 {
			return false
		}
	}
	if len(p.Classes) > 10 || line.Check(parents) != api.OK || len(slots) != p.Slots {
		return false
	}
	for i, slot := range slots {
		if slot != i {
			return false
		}
	}
	for i, c := range p.Classes {
		if _, e := line.Lin(parents, 3+i); e != api.OK {
			return false
		}
		met := map[int]bool{}
		for _, init := range c.Inits {
			if met[init.Slot] || !slices.Contains(toldHas(p, 3+i), init.Slot) || init.N < -1000000000 || init.N > 1000000000 {
				return false
			}
			met[init.Slot] = true
		}
	}
	return true
}

func toldMethodsFormed(p api.BindProg) bool {
	for _, args := range p.Gens {
		if args < 1 || args > 3 {
			return false
		}
	}
	for _, m := range p.Methods {
		if m.Kind < 1 || m.Kind > 4 || m.Gen < 0 || m.Gen >= len(p.Gens) {
			return false
		}
		if fact.Formed(toldWorld(p), m.Fact) != api.OK {
			return false
		}
		for _, f := range factNodes(m.Fact) {
			if f.Arg >= p.Gens[m.Gen] {
				return false
			}
		}
	}
	return len(p.Gens) <= 8 && len(p.Methods) <= 16
}

func factNodes(f api.Fact) []api.Fact {
	l := []api.Fact{f}
	for _, kid := range f.Kids {
		l = append(l, factNodes(kid)...)
	}
	return l
}

func toldNodesFormed(p api.BindProg) bool {
	if len(p.Nodes) < 1 || len(p.Nodes) > 120 {
		return false
	}
	refs := []int{p.Main}
	for _, m := range p.Methods {
		refs = append(refs, m.Node)
	}
	for at, n := range p.Nodes {
		up, ends := lineUp(p, at)
		if !ends || len(up) > 12 || !toldNodeFormed(p, n, up) {
			return false
		}
		refs = append(refs, n.Kids...)
	}
	return slices.Min(refs) >= 0 && slices.Max(refs) < len(p.Nodes)
}

func toldNodeFormed(p api.BindProg, n api.BindNode, up []user) bool {
	low, high := 0, 0
	switch n.Op {
	case api.FormInt:
		low, high = -1000000000, 1000000000
	case api.FormName:
		high = toldSize(p, up) - 1
	case api.FormSlot, api.FormSet:
		high = p.Slots - 1
	case api.FormCall:
		high = len(p.Gens) - 1
	case api.FormNew, api.FormTurn:
		low, high = 3, len(p.Classes)+2
	case api.FormNext:
		m := up[len(up)-1].method
		if m < 0 || p.Methods[m].Kind == api.FormBefore || p.Methods[m].Kind == api.FormAfter {
			return false
		}
	}
	return low <= n.N && n.N <= high && len(n.Kids) == toldKids(p, n)
}

// toldKids is how many Kids a node has; of what is no kind there are never so many.
func toldKids(p api.BindProg, n api.BindNode) int {
	switch n.Op {
	case api.FormInt, api.FormNone, api.FormName, api.FormNew, api.FormNext:
		return 0
	case api.FormSlot, api.FormTurn, api.FormOut:
		return 1
	case api.FormSet, api.FormLet, api.FormSeq, api.FormAdd, api.FormSub, api.FormMul, api.FormLess, api.FormSame:
		return 2
	case api.FormIf:
		return 3
	case api.FormCall:
		return p.Gens[n.N]
	}
	return -1
}

// Of programs with names.

// met is an expression of a program: where it stands, the one around it (or
// nil), and the parameters of its method.
type met struct {
	api.FormExp
	kid    int
	around *met
	params []string
	at     int
}

// toldNodes are all nodes of Bodies and Main, in order, and where each body begins.
func toldNodes(p api.FormProg) ([]*met, []int) {
	var l []*met
	var begins []int
	var walk func(e api.FormExp, kid int, around *met, params []string)
	walk = func(e api.FormExp, kid int, around *met, params []string) {
		x := &met{e, kid, around, params, len(l)}
		l = append(l, x)
		for i := range e.Kids {
			walk(e.Kids[i], i, x, params)
		}
	}
	for _, m := range p.Methods {
		begins = append(begins, len(l))
		walk(m.Body, 0, nil, m.Params)
	}
	begins = append(begins, len(l))
	walk(p.Main, 0, nil, nil)
	return l, begins
}

// lets are the FormLets around an expression that bind in it, the outermost first.
func (x *met) lets() []*met {
	if x.around == nil {
		return nil
	}
	l := x.around.lets()
	if x.around.Op == api.FormLet && x.kid == 1 {
		l = append(l, x.around)
	}
	return l
}

// place is the place of a name: among the parameters and the FormLets around it
// the last one that is called so.
func (x *met) place() int {
	names := slices.Clone(x.params)
	for _, let := range x.lets() {
		names = append(names, let.Text)
	}
	place := -1
	for i, name := range names {
		if name == x.Text {
			place = i
		}
	}
	return place
}

// toldGens are the functions of a program, and how many arguments they have.
func toldGens(p api.FormProg) ([]string, []int) {
	var names []string
	var args []int
	meet := func(name string, count int) {
		if !slices.Contains(names, name) {
			names, args = append(names, name), append(args, count)
		}
	}
	for _, m := range p.Methods {
		meet(m.Name, len(m.Params))
	}
	nodes, _ := toldNodes(p)
	for _, x := range nodes {
		if x.Op == api.FormCall {
			meet(x.Text, len(x.Kids))
		}
	}
	return names, args
}

// toldBind is the program by numbers of a program that is formed, with
// whatever facts and orders of classes.
func toldBind(p api.FormProg) api.BindProg {
	classes, slots := []string{"any", "int", "none"}, []string(nil)
	for _, c := range p.Classes {
		classes, slots = append(classes, c.Name), append(slots, c.Slots...)
	}
	gens, args := toldGens(p)
	q := api.BindProg{Slots: len(slots), Gens: args}
	for _, c := range p.Classes {
		b := api.BindClass{Parents: indices(classes, c.Parents), Slots: indices(slots, c.Slots)}
		for _, init := range c.Inits {
			b.Inits = append(b.Inits, api.BindInit{Slot: slices.Index(slots, init.Slot), N: init.N})
		}
		q.Classes = append(q.Classes, b)
	}
	nodes, begins := toldNodes(p)
	for _, x := range nodes {
		n := api.BindNode{Op: x.Op}
		for _, y := range nodes {
			if y.around == x {
				n.Kids = append(n.Kids, y.at)
			}
		}
		switch x.Op {
		case api.FormInt:
			n.N = x.N
		case api.FormName:
			n.N = x.place()
		case api.FormSlot, api.FormSet:
			n.N = slices.Index(slots, x.Text)
		case api.FormCall:
			n.N = slices.Index(gens, x.Text)
		case api.FormNew, api.FormTurn:
			n.N = slices.Index(classes, x.Text)
		}
		q.Nodes = append(q.Nodes, n)
	}
	for i, m := range p.Methods {
		q.Methods = append(q.Methods, api.BindMethod{Kind: m.Kind, Gen: slices.Index(gens, m.Name), Fact: toldFact(m.Fact, m.Params, classes, slots), Node: begins[i]})
	}
	q.Main = begins[len(begins)-1]
	return q
}

func indices(names, l []string) []int {
	var out []int
	for _, name := range l {
		out = append(out, slices.Index(names, name))
	}
	return out
}

func toldFact(f api.FormFact, params, classes, slots []string) api.Fact {
	g := api.Fact{Op: f.Op, N: f.N}
	for _, kid := range f.Kids {
		g.Kids = append(g.Kids, toldFact(kid, params, classes, slots))
	}
	if f.Name != "" {
		g.Arg, g.Path = slices.Index(params, f.Name), indices(slots, f.Path)
	}
	if f.Class != "" {
		g.Class = slices.Index(classes, f.Class)
	}
	return g
}

// first is the name of a number: a, b, .., z, aa, ab, ...
func first(n int) string {
	if n < 26 {
		return string(rune('a' + n))
	}
	return first(n/26-1) + first(n%26)
}

func firsts(l []int) []string {
	var out []string
	for _, n := range l {
		out = append(out, first(n))
	}
	return out
}

func toldClass(n int) string {
	if n < 3 {
		return []string{"any", "int", "none"}[n]
	}
	return first(n - 3)
}

// toldForm is the program for one by numbers, formed or not.
func toldForm(p api.BindProg) api.FormProg {
	var q api.FormProg
	for i, c := range p.Classes {
		f := api.FormClass{Name: first(i), Slots: firsts(c.Slots)}
		for _, parent := range c.Parents {
			f.Parents = append(f.Parents, toldClass(parent))
		}
		for _, init := range c.Inits {
			f.Inits = append(f.Inits, api.FormInit{Slot: first(init.Slot), N: init.N})
		}
		q.Classes = append(q.Classes, f)
	}
	for _, m := range p.Methods {
		f := api.FormMethod{Kind: m.Kind, Name: first(m.Gen), Fact: toldFormFact(m.Fact)}
		for i := range p.Gens[m.Gen] {
			f.Params = append(f.Params, first(i))
		}
		f.Body = toldExp(p, m.Node, letNames(p, m.Node, p.Gens[m.Gen]))
		q.Methods = append(q.Methods, f)
	}
	q.Main = toldExp(p, p.Main, letNames(p, p.Main, 0))
	return q
}

// letNames are the names of the FormLets below a node, so many being taken.
func letNames(p api.BindProg, root, taken int) map[int]string {
	names := map[int]string{}
	var walk func(at int)
	walk = func(at int) {
		if p.Nodes[at].Op == api.FormLet {
			names[at] = first(taken + len(names))
		}
		for _, kid := range p.Nodes[at].Kids {
			walk(kid)
		}
	}
	walk(root)
	return names
}

func toldExp(p api.BindProg, at int, lets map[int]string) api.FormExp {
	n := p.Nodes[at]
	e := api.FormExp{Op: n.Op}
	switch n.Op {
	case api.FormInt:
		e.N = n.N
	case api.FormName:
		e.Text = toldName(p, at, lets)
	case api.FormSlot, api.FormSet, api.FormCall:
		e.Text = first(n.N)
	case api.FormNew, api.FormTurn:
		e.Text = toldClass(n.N)
	case api.FormLet:
		e.Text = lets[at]
	}
	for _, kid := range n.Kids {
		e.Kids = append(e.Kids, toldExp(p, kid, lets))
	}
	return e
}

// toldName is the name of what stands at the place of a FormName: of the places
// of its environment those of the FormLets around it are the last ones.
func toldName(p api.BindProg, at int, lets map[int]string) string {
	up, _ := lineUp(p, at)
	size := toldSize(p, up)
	for _, u := range up {
		if u.node >= 0 && p.Nodes[u.node].Op == api.FormLet && u.kid == 1 {
			if size--; size == p.Nodes[at].N {
				return lets[u.node]
			}
		}
	}
	return first(p.Nodes[at].N)
}

func toldFormFact(f api.Fact) api.FormFact {
	g := api.FormFact{Op: f.Op, N: f.N, Path: firsts(f.Path)}
	if f.Op == api.FactIs || f.Op == api.FactLess || f.Op == api.FactSame {
		g.Name = first(f.Arg)
	}
	if f.Op == api.FactIs {
		g.Class = toldClass(f.Class)
	}
	for _, kid := range f.Kids {
		g.Kids = append(g.Kids, toldFormFact(kid))
	}
	return g
}

// toldInOrder says whether a formed program by numbers is in order.
func toldInOrder(p api.BindProg) bool {
	q := toldForm(p)
	return shape.Check(q) == api.OK && fmt.Sprint(toldBind(q)) == fmt.Sprint(p)
}
