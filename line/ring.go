package line

// precedence has for each class those that it precedes in the lists of a class.
type precedence map[int]set

func precedenceOf(lists [][]int) precedence {
	p := precedence{}
	for _, l := range lists {
		for i, c := range l {
			p[c] = p[c].join(setOf(l[i+1:]...))
		}
	}
	return p
}

// isRing reports whether a list, which may be of any numbers, is a ring.
func (p precedence) isRing(l []int) bool {
	if len(l) < 2 {
		return false
	}
	var met set
	last := l[len(l)-1]
	for _, c := range l {
		if met.has(c) || !p[last].has(c) {
			return false
		}
		met = met.with(c)
		last = c
	}
	return true
}

// agrees reports whether a list, which may be of any numbers, has each class
// of a set once, any as the last one, and turns nothing round.
func (p precedence) agrees(l []int, classes set) bool {
	var met set
	for _, c := range l {
		turned := p[c].meet(met) != set{}
		if met.has(anyClass) || met.has(c) || !classes.has(c) || turned {
			return false
		}
		met = met.with(c)
	}
	return met == classes
}

// firstRing returns of the rings with the fewest classes the first one. It is
// found soon: what stands in one list is ordered, so that such a ring goes
// through no list twice, and a class has few lists.
func (p precedence) firstRing() []int {
	for length := 2; length <= mostClasses; length++ {
		for c := range mostClasses {
			if ring := p.ring([]int{c}, length); ring != nil {
				return ring
			}
		}
	}
	return nil
}

// ring returns the first ring of a number of classes with a beginning, if there is one.
func (p precedence) ring(begun []int, length int) []int {
	if len(begun) == length {
		if p.isRing(begun) {
			return begun
		}
		return nil
	}
	for _, c := range p[begun[len(begun)-1]].list() {
		if ring := p.ring(append(begun, c), length); ring != nil {
			return ring
		}
	}
	return nil
}
