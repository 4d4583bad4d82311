package fact

import "consort/api"

// maker makes a model in which all is as it is asked, which must be possible.
type maker struct {
	*asks
	bigger api.FactWorld
	objs   []api.MeanThing
}

func newMaker(w api.FactWorld, a *asks) *maker {
	m := &maker{asks: a}
	for _, parents := range w.Parents {
		m.bigger.Parents = append(m.bigger.Parents, append([]int(nil), parents...))
	}
	m.bigger.Owner = append(m.bigger.Owner, w.Owner...)
	return m
}

func (m *maker) args() []api.MeanVal {
	var l []api.MeanVal
	for arg := range api.FormArgs {
		l = append(l, m.value(placeOf(arg, nil)))
	}
	return l
}

// value makes what stands at a place: nothing, if it can be that.
func (m *maker) value(p place) api.MeanVal {
	x := m.places[p]
	switch {
	case x == nil:
	case x.is.has(intClass):
		n, _ := x.first()
		return api.MeanVal{Kind: api.MeanInt, N: n}
	case x.is.has(noneClass):
	case x.is != setOf(anyClass) || x.isnt.has(noneClass):
		return m.object(p, x.is)
	}
	return api.MeanVal{Kind: api.MeanNone}
}

// object makes an object that is of all own classes of a set, and of no other one.
func (m *maker) object(p place, classes set) api.MeanVal {
	n := len(m.objs)
	m.objs = append(m.objs, api.MeanThing{Class: m.class(classes)})
	var vals []api.MeanVal
	for _, slot := range m.slots(classes) {
		vals = append(vals, m.valueOf(p, slot))
	}
	m.objs[n].Slots = vals
	return api.MeanVal{Kind: api.MeanObj, N: n}
}

// valueOf makes what stands in a slot of an object. Behind the longest paths nothing is asked.
func (m *maker) valueOf(p place, slot int) api.MeanVal {
	if p.deep == api.FormPath {
		return api.MeanVal{Kind: api.MeanNone}
	}
	return m.value(placeOf(p.arg, append(p.path(), slot)))
}

// class returns a class with just these above it: one of the world, if there is such a one, or a new one.
func (m *maker) class(above set) int {
	for class, s := range m.above {
		if class >= firstClass && s == above {
			return class
		}
	}
	var parents []int
	for c := firstClass; c < len(m.above); c++ {
		if above.has(c) {
			parents = append(parents, c)
		}
	}
	m.add(parents)
	m.bigger.Parents = append(m.bigger.Parents, parents)
	return len(m.above) - 1
}
