package fact_test

import (
	"slices"

	"consort/api"
)

// told is what the definitions of the chapter say of a formed world, followed
// word by word.
type told struct {
	w     api.FactWorld
	below [][]bool // a class is another one, or below it
}

func tell(w api.FactWorld) told {
	o := told{w: w}
	for a := range 3 + len(w.Parents) {
		row := make([]bool, 3+len(w.Parents))
		row[0], row[a] = true, true
		if a >= 3 {
			for _, p := range w.Parents[a-3] {
				for b := range o.below[p] {
					row[b] = row[b] || o.below[p][b]
				}
			}
		}
		o.below = append(o.below, row)
	}
	return o
}

func (o told) slots(class int) []int {
	var l []int
	for s, owner := range o.w.Owner {
		if o.below[class][owner] {
			l = append(l, s)
		}
	}
	return l
}

// at is what stands at a path of a value.
func (o told) at(objs []api.MeanThing, v api.MeanVal, path []int) (api.MeanVal, bool) {
	if len(path) == 0 {
		return v, true
	}
	last := len(path) - 1
	v, stands := o.at(objs, v, path[:last])
	if !stands || v.Kind != api.MeanObj {
		return api.MeanVal{}, false
	}
	i := slices.Index(o.slots(objs[v.N].Class), path[last])
	if i < 0 {
		return api.MeanVal{}, false
	}
	return objs[v.N].Slots[i], true
}

func (o told) holds(f api.Fact, objs []api.MeanThing, args []api.MeanVal) bool {
	return holdsIf(f, func(f api.Fact) bool {
		v, stands := o.at(objs, args[f.Arg], f.Path)
		return stands && o.is(f, v, objs)
	})
}

// is says whether a value is as a FactIs, FactLess or FactSame asks for it.
func (o told) is(f api.Fact, v api.MeanVal, objs []api.MeanThing) bool {
	if f.Op == api.FactIs {
		class := int(v.Kind) // of an integer 1, of nothing 2
		if v.Kind == api.MeanObj {
			class = objs[v.N].Class
		}
		return o.below[class][f.Class]
	}
	return v.Kind == api.MeanInt && (f.Op == api.FactLess && v.N < f.N || f.Op == api.FactSame && v.N == f.N)
}

// holdsIf says whether a fact holds if of its FactIs, FactLess and FactSame these do.
func holdsIf(f api.Fact, is func(api.Fact) bool) bool {
	switch f.Op {
	case api.FactTrue:
		return true
	case api.FactNot:
		return !holdsIf(f.Kids[0], is)
	case api.FactAnd:
		return holdsIf(f.Kids[0], is) && holdsIf(f.Kids[1], is)
	case api.FactOr:
		return holdsIf(f.Kids[0], is) || holdsIf(f.Kids[1], is)
	}
	return is(f)
}

// survey has all ways in which the FactIs, FactLess and FactSame of some facts
// can be answered in bigger worlds: for each argument a number with a bit for
// each of them.
type survey struct {
	told
	asked []api.Fact
	place map[string]int
	ways  [][api.FormArgs]uint64
}

// mostWays is how many ways a survey goes through.
const mostWays = 60000

// surveyed goes through all that can be so in any bigger world: whatever
// classes there are, those of this world that an object is of are those that
// one is of whose class has some of them as parents; and objects have nothing
// in common that a fact could speak of, so each slot has one of its own.
func surveyed(w api.FactWorld, facts ...api.Fact) (survey, bool) {
	bigger := copyWorld(w)
	for some := range 1 << len(w.Parents) {
		var parents []int
		for i := range w.Parents {
			if some>>i&1 == 1 {
				parents = append(parents, i+3)
			}
		}
		bigger.Parents = append(bigger.Parents, parents)
	}
	s := survey{told: tell(bigger), place: map[string]int{}}
	for _, f := range facts {
		s.ask(f)
	}
	s.ways = [][api.FormArgs]uint64{{}}
	for arg := range api.FormArgs {
		var longer [][api.FormArgs]uint64
		for _, answer := range s.answers(arg, 0) {
			for _, way := range s.ways {
				way[arg] = answer
				longer = append(longer, way)
			}
			if len(longer) > mostWays {
				return survey{}, false
			}
		}
		s.ways = longer
	}
	return s, true
}

// ask notes what is asked in a fact.
func (s *survey) ask(f api.Fact) {
	for _, kid := range f.Kids {
		s.ask(kid)
	}
	if _, known := s.place[text(f)]; !known && len(f.Kids) == 0 && f.Op != api.FactTrue {
		s.place[text(f)] = len(s.asked)
		s.asked = append(s.asked, f)
	}
}

// picked are the bits of what is asked, of an argument, and is so.
func (s survey) picked(arg int, so func(api.Fact) bool) uint64 {
	var bits uint64
	for i, f := range s.asked {
		if f.Arg == arg && so(f) {
			bits |= 1 << i
		}
	}
	return bits
}

// answers are the ways in which all is answered by what stands behind so many
// slots of the paths of an argument.
func (s survey) answers(arg, behind int) []uint64 {
	here := func(v api.MeanVal, class int) uint64 {
		return s.picked(arg, func(f api.Fact) bool {
			return len(f.Path) == behind && s.is(f, v, []api.MeanThing{{Class: class}})
		})
	}
	l := []uint64{here(api.MeanVal{Kind: api.MeanNone}, 0)}
	for _, n := range s.numbers() {
		l = append(l, here(api.MeanVal{Kind: api.MeanInt, N: n}, 0))
	}
	inSlot := map[int][]uint64{}
	if behind < api.FormPath {
		for slot := range s.w.Owner {
			its := s.picked(arg, func(f api.Fact) bool { return len(f.Path) > behind && f.Path[behind] == slot })
			if its != 0 {
				inSlot[slot] = distinct(s.answers(arg, behind+1), its)
			}
		}
	}
	for class := 3; class < len(s.below); class++ {
		these := []uint64{here(api.MeanVal{Kind: api.MeanObj}, class)}
		for _, slot := range s.slots(class) {
			these = crossed(these, inSlot[slot])
		}
		l = append(l, these...)
	}
	return distinct(l, ^uint64(0))
}

func distinct(l []uint64, bits uint64) []uint64 {
	var out []uint64
	met := map[uint64]bool{}
	for _, x := range l {
		if x &= bits; !met[x] {
			met[x] = true
			out = append(out, x)
		}
	}
	return out
}

func crossed(a, b []uint64) []uint64 {
	if len(b) == 0 {
		return a
	}
	var out []uint64
	for _, x := range a {
		for _, y := range b {
			out = append(out, x|y)
		}
	}
	return out
}

// numbers are integers among which there is one for each answer.
func (s survey) numbers() []int {
	l := []int{-api.FormMost, 0, api.FormMost}
	for _, f := range s.asked {
		for _, n := range []int{f.N - 1, f.N, f.N + 1} {
			if -api.FormMost <= n && n <= api.FormMost {
				l = append(l, n)
			}
		}
	}
	slices.Sort(l)
	return slices.Compact(l)
}

func (s survey) can(f api.Fact) bool {
	f = s.marked(f)
	return slices.ContainsFunc(s.ways, func(way [api.FormArgs]uint64) bool {
		return holdsIf(f, func(f api.Fact) bool { return way[f.Arg]>>f.N&1 == 1 })
	})
}

// marked is a fact in which, where something is asked, N is its place.
func (s survey) marked(f api.Fact) api.Fact {
	if place, is := s.place[text(f)]; is {
		f.N = place
	}
	f.Kids = slices.Clone(f.Kids)
	for i, kid := range f.Kids {
		f.Kids[i] = s.marked(kid)
	}
	return f
}

func (s survey) implies(a, b api.Fact) bool { return !s.can(and(a, not(b))) }

func (s survey) together(l []api.Fact) bool {
	return s.can(all(and, append([]api.Fact{yes()}, l...)...))
}

// casesOf are the cases of a fact, or of its contrary.
func casesOf(f api.Fact, contrary bool) [][]api.Fact {
	switch f.Op {
	case api.FactTrue:
		if contrary {
			return nil
		}
		return [][]api.Fact{nil}
	case api.FactNot:
		return casesOf(f.Kids[0], !contrary)
	case api.FactAnd, api.FactOr:
		first, second := casesOf(f.Kids[0], contrary), casesOf(f.Kids[1], contrary)
		if (f.Op == api.FactOr) != contrary {
			return append(first, second...)
		}
		return joined(first, second)
	}
	if contrary {
		f = not(f)
	}
	return [][]api.Fact{{f}}
}

func joined(first, second [][]api.Fact) [][]api.Fact {
	var out [][]api.Fact
	for _, a := range first {
		for _, b := range second {
			c := slices.Clone(a)
			for _, f := range b {
				if !slices.ContainsFunc(a, func(g api.Fact) bool { return text(g) == text(f) }) {
					c = append(c, f)
				}
			}
			out = append(out, c)
		}
	}
	return out
}

// cases are those of a fact that can be so.
func (s survey) cases(f api.Fact) [][]api.Fact {
	return slices.DeleteFunc(casesOf(f, false), func(l []api.Fact) bool { return !s.together(l) })
}

// proof is the proof that a implies b.
func (s survey) proof(a, b api.Fact) [][]int {
	var proof [][]int
	for _, l := range casesOf(and(a, not(b)), false) {
		left := make([]bool, len(l))
		for i := range left {
			left[i] = true
		}
		for i := range left {
			left[i] = false
			left[i] = s.together(chosen(l, left))
		}
		var numbers []int
		for i, is := range left {
			if is {
				numbers = append(numbers, i)
			}
		}
		proof = append(proof, numbers)
	}
	return proof
}

func chosen(l []api.Fact, which []bool) []api.Fact {
	var out []api.Fact
	for i, f := range l {
		if which[i] {
			out = append(out, f)
		}
	}
	return out
}

// short is a fact, made short.
func (s survey) short(f api.Fact) api.Fact {
	for {
		g, is := s.step(f)
		if !is {
			return f
		}
		f = g
	}
}

// step does the first step that there is.
func (s survey) step(f api.Fact) (api.Fact, bool) {
	for n := range size(f) {
		node := nodeOf(f, n)
		var instead []api.Fact
		if node.Op != api.FactTrue {
			instead = append(instead, yes())
		}
		if t := text(node); t != text(yes()) && t != text(not(yes())) {
			instead = append(instead, not(yes()))
		}
		for _, g := range append(instead, node.Kids...) {
			whole := replaced(f, n, g)
			if s.implies(f, whole) && s.implies(whole, f) {
				return whole, true
			}
		}
	}
	return api.Fact{}, false
}

// nodeOf is the node of a fact with a number, replaced the fact with another one there.
func nodeOf(f api.Fact, n int) api.Fact {
	if n == 0 {
		return f
	}
	n--
	for _, kid := range f.Kids {
		if n < size(kid) {
			return nodeOf(kid, n)
		}
		n -= size(kid)
	}
	panic("no such node")
}

func replaced(f api.Fact, n int, by api.Fact) api.Fact {
	if n == 0 {
		return by
	}
	n--
	f.Kids = slices.Clone(f.Kids)
	for i, kid := range f.Kids {
		if 0 <= n && n < size(kid) {
			f.Kids[i] = replaced(kid, n, by)
		}
		n -= size(kid)
	}
	return f
}
