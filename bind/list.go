package bind

// each returns what a function makes of the elements of a list.
func each[T, U any](l []T, change func(T) U) []U {
	var out []U
	for _, x := range l {
		out = append(out, change(x))
	}
	return out
}

// copied returns a list in memory of its own.
func copied(l []int) []int { return append([]int(nil), l...) }

// every reports whether all elements of a list are so.
func every[T any](l []T, is func(T) bool) bool {
	for _, x := range l {
		if !is(x) {
			return false
		}
	}
	return true
}
