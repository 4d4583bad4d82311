package fact

import (
	"slices"

	"consort/api"
)

// scene is a world with objects and arguments that are formed.
type scene struct {
	*world
	objs []api.MeanThing
	args []api.MeanVal
}

func openScene(w api.FactWorld, objs []api.MeanThing, args []api.MeanVal) (*scene, api.Errno) {
	o, e := open(w)
	if e != api.OK {
		return nil, e
	}
	s := &scene{world: o, objs: objs, args: args}
	few := len(objs) <= api.MeanObjs && 1 <= len(args) && len(args) <= api.FormArgs
	if few && every(objs, s.isThing) && every(args, s.isVal) {
		return s, api.OK
	}
	return nil, api.ErrArg
}

func (s *scene) isThing(t api.MeanThing) bool {
	return s.isOwn(t.Class) && len(t.Slots) == len(s.slots(s.above[t.Class])) && every(t.Slots, s.isVal)
}

func (s *scene) isVal(v api.MeanVal) bool {
	switch v.Kind {
	case api.MeanInt:
		return isInteger(v.N)
	case api.MeanNone:
		return v.N == 0
	case api.MeanObj:
		return 0 <= v.N && v.N < len(s.objs)
	}
	return false
}

func (s *scene) classOf(v api.MeanVal) int {
	switch v.Kind {
	case api.MeanInt:
		return intClass
	case api.MeanNone:
		return noneClass
	}
	return s.objs[v.N].Class
}

// at returns what stands at a path of an argument, and whether anything does.
func (s *scene) at(arg int, path []int) (api.MeanVal, bool) {
	v := s.args[arg]
	for _, slot := range path {
		place := slices.Index(s.slots(s.above[s.classOf(v)]), slot)
		if place < 0 {
			return api.MeanVal{}, false
		}
		v = s.objs[v.N].Slots[place]
	}
	return v, true
}

func (s *scene) holds(f api.Fact) bool {
	switch f.Op {
	case api.FactTrue:
		return true
	case api.FactNot:
		return !s.holds(f.Kids[0])
	case api.FactAnd:
		return s.holds(f.Kids[0]) && s.holds(f.Kids[1])
	case api.FactOr:
		return s.holds(f.Kids[0]) || s.holds(f.Kids[1])
	}
	v, stands := s.at(f.Arg, f.Path)
	return stands && s.isSo(f, v)
}

// isSo reports whether what a fact asks of what stands at its path is so.
func (s *scene) isSo(f api.Fact, v api.MeanVal) bool {
	switch f.Op {
	case api.FactLess:
		return v.Kind == api.MeanInt && v.N < f.N
	case api.FactSame:
		return v.Kind == api.MeanInt && v.N == f.N
	}
	return s.above[s.classOf(v)].has(f.Class)
}
