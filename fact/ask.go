package fact

import (
	"slices"

	"consort/api"
)

// numbers is what is asked of an integer, if one stands there.
type numbers struct {
	low, high int
	others    []int // it is none of these
}

// first returns the least integer that is as it is asked, and whether there is one.
func (n numbers) first() (int, bool) {
	i := n.low
	for slices.Contains(n.others, i) {
		i++
	}
	return i, i <= n.high
}

// ask is what is asked of what stands at a place, if anything does.
type ask struct {
	numbers
	is   set // the classes of which it has to be, and all above them
	isnt set // the classes of which it must not be
}

// asks is what literals ask, place by place.
type asks struct {
	*world
	places map[place]*ask
}

func (w *world) ask(l []literal) *asks {
	a := &asks{world: w, places: map[place]*ask{}}
	for _, x := range l {
		a.put(x)
	}
	return a
}

// of returns what is asked at a place. Each value is any.
func (a *asks) of(p place) *ask {
	x := a.places[p]
	if x == nil {
		x = &ask{numbers: numbers{low: -api.FormMost, high: api.FormMost}, is: setOf(anyClass)}
		a.places[p] = x
	}
	return x
}

func (a *asks) put(l literal) {
	x := a.of(l.at)
	switch {
	case l.op == api.FactIs && l.so:
		a.be(l.at, l.class)
	case l.op == api.FactIs:
		x.isnt |= setOf(l.class)
	case l.op == api.FactLess && !l.so:
		x.low = max(x.low, l.n)
	case l.op == api.FactSame && !l.so:
		x.others = append(x.others, l.n)
	case l.op == api.FactLess:
		x.high = min(x.high, l.n-1)
		a.be(l.at, intClass)
	default:
		x.low, x.high = max(x.low, l.n), min(x.high, l.n)
		a.be(l.at, intClass)
	}
}

// be asks that something of a class stands at a place; so on the way there
// stands what has the slots of the path.
func (a *asks) be(p place, class int) {
	a.of(p).is |= a.above[class]
	if p.deep > 0 {
		slot, way := p.last()
		a.be(way, a.owner[slot])
	}
}

// stands reports whether something stands at a place whatever else is there.
// Where it need not, there can be nothing: a class can be added that is below
// those that are asked for, and below no other one. What has to be of an own
// class stands where it is asked for, for be asks for the way there, too.
func (a *asks) stands(p place) bool {
	if p.deep == 0 {
		return true
	}
	slot, way := p.last()
	x := a.places[way]
	return x != nil && x.is.has(a.owner[slot])
}

// canBe reports whether all that is asked can be so.
func (a *asks) canBe() bool {
	for p, x := range a.places {
		if a.stands(p) && !x.canBe() {
			return false
		}
	}
	return true
}

// canBe reports whether there can be what is asked. What has to be of own
// classes alone can be, for a class can be added below them.
func (x *ask) canBe() bool {
	switch {
	case x.is&x.isnt != 0:
		return false
	case x.is.has(intClass):
		_, is := x.first()
		return is && x.is == setOf(anyClass, intClass)
	case x.is.has(noneClass):
		return x.is == setOf(anyClass, noneClass)
	}
	return true
}

// together reports whether literals can be so together.
func (w *world) together(l []literal) bool { return w.ask(l).canBe() }

func (w *world) can(f api.Fact) bool {
	for l := range cases(f) {
		if w.together(l) {
			return true
		}
	}
	return false
}

func (w *world) implies(a, b api.Fact) bool { return !w.can(and(a, not(b))) }
