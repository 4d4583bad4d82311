package rank

// filter returns the elements of a list that are so, in memory of their own.
func filter[T any](l []T, is func(T) bool) []T {
	var out []T
	for _, x := range l {
		if is(x) {
			out = append(out, x)
		}
	}
	return out
}
