package fact

import "consort/api"

// The classes that each world has; firstClass is the first one of its own.
const (
	anyClass   = 0
	intClass   = 1
	noneClass  = 2
	firstClass = 3
)

// world is a world that is formed.
type world struct {
	owner []int
	above []set // of each class: itself, and all that it is below
}

// open returns a world, unless it or one of some facts is not formed.
func open(w api.FactWorld, facts ...api.Fact) (*world, api.Errno) {
	if len(w.Parents) > api.FactClasses || len(w.Owner) > api.FactSlots {
		return nil, api.ErrArg
	}
	o := &world{
		owner: w.Owner,
		above: []set{setOf(anyClass), setOf(anyClass, intClass), setOf(anyClass, noneClass)},
	}
	if every(w.Parents, o.add) && every(w.Owner, o.isOwn) && every(facts, o.formed) {
		return o, api.OK
	}
	return nil, api.ErrArg
}

// add puts a class behind those of a world, unless these cannot be its parents.
func (w *world) add(parents []int) bool {
	class := len(w.above)
	above := setOf(anyClass, class)
	var met set
	for _, p := range parents {
		if !w.isOwn(p) || met.has(p) {
			return false
		}
		met |= setOf(p)
		above |= w.above[p]
	}
	w.above = append(w.above, above)
	return true
}

func (w *world) isClass(class int) bool { return 0 <= class && class < len(w.above) }

func (w *world) isOwn(class int) bool { return firstClass <= class && w.isClass(class) }

func (w *world) isSlot(slot int) bool { return 0 <= slot && slot < len(w.owner) }

func (w *world) isPath(path []int) bool {
	return len(path) <= api.FormPath && every(path, w.isSlot)
}

// slots returns which slots what is of all classes of a set has.
func (w *world) slots(classes set) []int {
	var l []int
	for slot, owner := range w.owner {
		if classes.has(owner) {
			l = append(l, slot)
		}
	}
	return l
}
