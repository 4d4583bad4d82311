package fact

import "consort/api"

// openImplication returns a world and the cases of an implication, unless there are too many.
func openImplication(w api.FactWorld, a, b api.Fact) (*world, [][]literal, api.Errno) {
	o, e := open(w, a, b)
	if e != api.OK {
		return nil, nil, e
	}
	var list [][]literal
	for l := range cases(and(a, not(b))) {
		list = append(list, l)
	}
	if len(list) > api.FactCases {
		return nil, nil, api.ErrLong
	}
	return o, list, api.OK
}

// needed returns the numbers of literals that are left of a case when each one
// is left out without which the others cannot be so together either.
func (w *world) needed(l []literal) []int {
	left := numbersOf(l)
	for _, n := range numbersOf(l) {
		if fewer := without(left, n); !w.together(pick(l, fewer)) {
			left = fewer
		}
	}
	return left
}

func numbersOf(l []literal) []int {
	var out []int
	for n := range l {
		out = append(out, n)
	}
	return out
}

func without(l []int, n int) []int {
	var out []int
	for _, x := range l {
		if x != n {
			out = append(out, x)
		}
	}
	return out
}

// pick returns the literals with some numbers.
func pick(l []literal, numbers []int) []literal {
	var out []literal
	for _, n := range numbers {
		out = append(out, l[n])
	}
	return out
}

// areNumbers reports whether a proof has for each case an increasing list of
// numbers of its literals.
func areNumbers(proof [][]int, list [][]literal) bool {
	if len(proof) != len(list) {
		return false
	}
	for i, l := range list {
		least := 0
		for _, n := range proof[i] {
			if n < least || n >= len(l) {
				return false
			}
			least = n + 1
		}
	}
	return true
}
