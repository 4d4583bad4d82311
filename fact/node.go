package fact

import "consort/api"

// formed reports whether a fact is formed. Facts that share lists, or contain
// themselves, may have no end, so nodes are counted before they are entered.
func (w *world) formed(f api.Fact) bool {
	nodes := 0
	var examine func(f api.Fact, depth int) bool
	examine = func(f api.Fact, depth int) bool {
		nodes++
		if nodes > api.FactNodes || depth > api.FormDepth || !w.isNode(f) {
			return false
		}
		return every(f.Kids, func(kid api.Fact) bool { return examine(kid, depth+1) })
	}
	return examine(f, 1)
}

// isNode reports whether a node has what its Op has, and nothing else.
func (w *world) isNode(f api.Fact) bool {
	switch f.Op {
	case api.FactTrue:
		return len(f.Kids) == 0 && isBlank(f)
	case api.FactIs:
		return len(f.Kids) == 0 && w.isPlace(f) && w.isClass(f.Class) && f.N == 0
	case api.FactLess, api.FactSame:
		return len(f.Kids) == 0 && w.isPlace(f) && f.Class == 0 && isInteger(f.N)
	case api.FactNot:
		return len(f.Kids) == 1 && isBlank(f)
	case api.FactAnd, api.FactOr:
		return len(f.Kids) == 2 && isBlank(f)
	}
	return false
}

// isBlank reports whether a node has nothing but Kids.
func isBlank(f api.Fact) bool {
	return f.Arg == 0 && len(f.Path) == 0 && f.Class == 0 && f.N == 0
}

func (w *world) isPlace(f api.Fact) bool {
	return 0 <= f.Arg && f.Arg < api.FormArgs && w.isPath(f.Path)
}

func isInteger(n int) bool { return -api.FormMost <= n && n <= api.FormMost }

// speaksOf reports whether a fact speaks of no more arguments than so many.
// What speaks of none has the Arg 0, which stands for one that there always is.
func speaksOf(f api.Fact, args int) bool {
	return f.Arg < args && every(f.Kids, func(kid api.Fact) bool { return speaksOf(kid, args) })
}

// copied returns a fact in memory of its own.
func copied(f api.Fact) api.Fact {
	f.Path = append([]int(nil), f.Path...)
	var kids []api.Fact
	for _, kid := range f.Kids {
		kids = append(kids, copied(kid))
	}
	f.Kids = kids
	return f
}

func not(f api.Fact) api.Fact {
	return api.Fact{Op: api.FactNot, Kids: []api.Fact{f}}
}

func and(a, b api.Fact) api.Fact {
	return api.Fact{Op: api.FactAnd, Kids: []api.Fact{a, b}}
}
