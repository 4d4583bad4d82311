package fact_test

import (
	"fmt"
	"math/rand"
	"slices"
	"strconv"
	"strings"
	"testing"

	"consort/api"
)

func want[T comparable](t *testing.T, what string, got, want T) {
	t.Helper()
	if got != want {
		t.Errorf("%s: %v, not %v", what, got, want)
	}
}

// The builders of facts.

func yes() api.Fact { return api.Fact{Op: api.FactTrue} }

func not(f api.Fact) api.Fact { return api.Fact{Op: api.FactNot, Kids: []api.Fact{f}} }

func and(a, b api.Fact) api.Fact { return api.Fact{Op: api.FactAnd, Kids: []api.Fact{a, b}} }

func or(a, b api.Fact) api.Fact { return api.Fact{Op: api.FactOr, Kids: []api.Fact{a, b}} }

func is(arg, class int, path ...int) api.Fact {
	return api.Fact{Op: api.FactIs, Arg: arg, Path: path, Class: class}
}

func less(arg, n int, path ...int) api.Fact {
	return api.Fact{Op: api.FactLess, Arg: arg, Path: path, N: n}
}

func same(arg, n int, path ...int) api.Fact {
	return api.Fact{Op: api.FactSame, Arg: arg, Path: path, N: n}
}

// all puts facts together by an operator, the first two first.
func all(two func(a, b api.Fact) api.Fact, facts ...api.Fact) api.Fact {
	f := facts[0]
	for _, g := range facts[1:] {
		f = two(f, g)
	}
	return f
}

// bush puts facts together by an operator, with as little depth as can be.
func bush(two func(a, b api.Fact) api.Fact, facts ...api.Fact) api.Fact {
	if len(facts) == 1 {
		return facts[0]
	}
	middle := len(facts) / 2
	return two(bush(two, facts[:middle]...), bush(two, facts[middle:]...))
}

// nots is a fact within so many FactNots.
func nots(n int, f api.Fact) api.Fact {
	for range n {
		f = not(f)
	}
	return f
}

// times makes a list of n facts.
func times(n int, make func(i int) api.Fact) []api.Fact {
	var l []api.Fact
	for i := range n {
		l = append(l, make(i))
	}
	return l
}

func isNumber(i int) api.Fact { return same(0, i) }

// reader reads facts as the chapter writes them, with any, int and none for
// the first classes, and true.
type reader struct{ left []string }

func read(text string) api.Fact {
	text = strings.NewReplacer("(", " ( ", ")", " ) ").Replace(text)
	r := &reader{left: strings.Fields(text)}
	f := r.either()
	if len(r.left) > 0 {
		panic("no fact: " + text)
	}
	return f
}

func (r *reader) next() string {
	word := r.left[0]
	r.left = r.left[1:]
	return word
}

func (r *reader) skip(word string) bool {
	if len(r.left) == 0 || r.left[0] != word {
		return false
	}
	r.next()
	return true
}

func (r *reader) either() api.Fact {
	f := r.both()
	for r.skip("or") {
		f = or(f, r.both())
	}
	return f
}

func (r *reader) both() api.Fact {
	f := r.one()
	for r.skip("and") {
		f = and(f, r.one())
	}
	return f
}

func (r *reader) one() api.Fact {
	switch {
	case r.skip("not"):
		return not(r.one())
	case r.skip("true"):
		return yes()
	case r.skip("("):
		f := r.either()
		r.next()
		return f
	}
	var path []int
	for _, word := range strings.Split(r.next(), ".") {
		path = append(path, number(word))
	}
	switch r.next() {
	case "is":
		return is(path[0], number(r.next()), path[1:]...)
	case "<":
		return less(path[0], number(r.next()), path[1:]...)
	}
	return same(path[0], number(r.next()), path[1:]...)
}

func number(word string) int {
	if class := slices.Index([]string{"any", "int", "none"}, word); class >= 0 {
		return class
	}
	switch word {
	case "most":
		return api.FormMost
	case "least":
		return -api.FormMost
	}
	n, e := strconv.Atoi(word)
	if e != nil {
		panic("no number: " + word)
	}
	return n
}

// text writes a fact; no two facts have the same one.
func text(f api.Fact) string {
	at := strings.Trim(strings.ReplaceAll(fmt.Sprint(append([]int{f.Arg}, f.Path...)), " ", "."), "[]")
	switch f.Op {
	case api.FactTrue:
		return "true"
	case api.FactIs:
		return fmt.Sprintf("%s is %d", at, f.Class)
	case api.FactLess:
		return fmt.Sprintf("%s < %d", at, f.N)
	case api.FactSame:
		return fmt.Sprintf("%s = %d", at, f.N)
	case api.FactNot:
		return "not (" + text(f.Kids[0]) + ")"
	case api.FactAnd:
		return "(" + text(f.Kids[0]) + " and " + text(f.Kids[1]) + ")"
	case api.FactOr:
		return "(" + text(f.Kids[0]) + " or " + text(f.Kids[1]) + ")"
	}
	return fmt.Sprintf("%#v", f)
}

func texts(cases [][]api.Fact) string {
	var l []string
	for _, c := range cases {
		var facts []string
		for _, f := range c {
			facts = append(facts, text(f))
		}
		l = append(l, strings.Join(facts, ", "))
	}
	return strings.Join(l, "; ")
}

// splitCases reads what texts writes.
func splitCases(text string) [][]api.Fact {
	var out [][]api.Fact
	for _, c := range strings.Split(text, "; ") {
		var facts []api.Fact
		for _, f := range strings.Split(c, ", ") {
			if f != "" {
				facts = append(facts, read(f))
			}
		}
		if facts != nil {
			out = append(out, facts)
		}
	}
	return out
}

func size(f api.Fact) int {
	n := 1
	for _, kid := range f.Kids {
		n += size(kid)
	}
	return n
}

// The worlds of the tests.

// exampleW is the world of the chapter's examples.
func exampleW() api.FactWorld {
	return api.FactWorld{Parents: [][]int{nil, {3}, nil, {4, 5}}, Owner: []int{3, 5}}
}

// empty is a world without classes or slots of its own.
func empty() api.FactWorld { return api.FactWorld{} }

// wide is a world with so many classes, each below some ahead of it, and slots.
func wide(classes, slots int) api.FactWorld {
	var w api.FactWorld
	for i := range classes {
		var parents []int
		for _, back := range []int{1, 3, 7} {
			if i%5 > 0 && back <= i {
				parents = append(parents, i+3-back)
			}
		}
		w.Parents = append(w.Parents, parents)
	}
	for i := range slots {
		w.Owner = append(w.Owner, 3+i*7%classes)
	}
	return w
}

// anyWorld is a world with so many classes and slots.
func anyWorld(r *rand.Rand, classes, slots int) api.FactWorld {
	return grown(r, empty(), classes, slots)
}

// grown is a bigger world, with so many more classes and slots.
func grown(r *rand.Rand, w api.FactWorld, classes, slots int) api.FactWorld {
	w = copyWorld(w)
	for range classes {
		parents := r.Perm(len(w.Parents))
		parents = parents[:min(len(parents), r.Intn(4))]
		for i := range parents {
			parents[i] += 3
		}
		w.Parents = append(w.Parents, parents)
	}
	for range slots {
		if len(w.Parents) > 0 {
			w.Owner = append(w.Owner, 3+r.Intn(len(w.Parents)))
		}
	}
	return w
}

func copyWorld(w api.FactWorld) api.FactWorld {
	var out api.FactWorld
	for _, l := range w.Parents {
		out.Parents = append(out.Parents, slices.Clone(l))
	}
	out.Owner = slices.Clone(w.Owner)
	return out
}

// maker makes facts of a world at random.
type maker struct {
	*rand.Rand
	w     api.FactWorld
	args  int // it speaks of the first ones
	slots int // and of the first ones of these
}

// fact makes a fact of about so many literals.
func (m maker) fact(literals int) api.Fact {
	if literals <= 1 {
		if m.Intn(12) == 0 {
			return yes()
		}
		if m.Intn(4) == 0 {
			return not(m.literal())
		}
		return m.literal()
	}
	first := 1 + m.Intn(literals-1)
	a, b := m.fact(first), m.fact(literals-first)
	f := and(a, b)
	if m.Intn(2) == 0 {
		f = or(a, b)
	}
	if m.Intn(8) == 0 {
		return not(f)
	}
	return f
}

// formed makes a fact that has as many nodes as it should and is not too deep.
func (m maker) formed(literals int) api.Fact {
	for {
		f := m.fact(literals)
		if size(f) <= api.FactNodes && depth(f) <= api.FormDepth {
			return f
		}
	}
}

func depth(f api.Fact) int {
	deep := 0
	for _, kid := range f.Kids {
		deep = max(deep, depth(kid))
	}
	return deep + 1
}

func (m maker) literal() api.Fact {
	arg := m.Intn(m.args)
	var path []int
	if m.slots > 0 {
		for range max(0, m.Intn(api.FormPath+2)-1) {
			path = append(path, m.Intn(m.slots))
		}
	}
	numbers := []int{-api.FormMost, 1 - api.FormMost, 0, 1, 2, 3, api.FormMost}
	switch m.Intn(5) {
	case 0:
		return less(arg, numbers[m.Intn(len(numbers))], path...)
	case 1:
		return same(arg, numbers[m.Intn(len(numbers))], path...)
	}
	return is(arg, m.Intn(3+len(m.w.Parents)), path...)
}
