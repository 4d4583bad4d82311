package line

import "consort/api"

// Of the classes any, int and none, which each graph has, any is above all;
// firstClass is the first one whose parents a graph lists.
const (
	anyClass    = 0
	firstClass  = 3
	mostClasses = firstClass + api.LineClasses
)

// set is a set of classes, with a bit for each.
type set [(mostClasses + 63) / 64]uint64

func setOf(classes ...int) set {
	var s set
	for _, c := range classes {
		s = s.with(c)
	}
	return s
}

// has reports whether a number is in a set. It may be any number, for lists
// that are asked about are not always lists of classes.
func (s set) has(class int) bool {
	return 0 <= class && class < mostClasses && s[class/64]>>(class%64)&1 == 1
}

func (s set) with(class int) set {
	s[class/64] |= 1 << (class % 64)
	return s
}

func (s set) join(t set) set {
	for i := range s {
		s[i] |= t[i]
	}
	return s
}

func (s set) meet(t set) set {
	for i := range s {
		s[i] &= t[i]
	}
	return s
}

// list returns the classes of a set, increasing.
func (s set) list() []int {
	var l []int
	for c := range mostClasses {
		if s.has(c) {
			l = append(l, c)
		}
	}
	return l
}
