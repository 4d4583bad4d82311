package shape

// each returns what a function makes of the elements of a list.
func each[T, U any](l []T, change func(T) U) []U {
	var out []U
	for _, x := range l {
		out = append(out, change(x))
	}
	return out
}

// copied returns a list in memory of its own.
func copied[T any](l []T) []T { return append([]T(nil), l...) }

// once returns the elements of a list, each where it stands first.
func once[T comparable](l []T) []T {
	met := map[T]bool{}
	var out []T
	for _, x := range l {
		if !met[x] {
			met[x] = true
			out = append(out, x)
		}
	}
	return out
}

// different reports whether no two elements of a list are equal.
func different[T comparable](l []T) bool { return len(once(l)) == len(l) }

// same reports whether two lists are the same, element by element.
func same[T any](a, b []T, equal func(x, y T) bool) bool {
	if len(a) != len(b) {
		return false
	}
	for i := range a {
		if !equal(a[i], b[i]) {
			return false
		}
	}
	return true
}

func equal[T comparable](x, y T) bool { return x == y }
