package fact

// set is a set of classes, with a bit for each: a world has at most 63, with
// any, int and none.
type set uint64

func setOf(classes ...int) set {
	var s set
	for _, c := range classes {
		s |= 1 << c
	}
	return s
}

func (s set) has(class int) bool { return s>>class&1 == 1 }
