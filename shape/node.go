package shape

import "consort/api"

// textKind is what the Text of an expression is.
type textKind int

const (
	noText textKind = iota
	nameText
	slotText
	classText
	genText
)

// expHas is what expressions of a kind have: an N, a Text, and how many Kids.
type expHas struct {
	number      bool
	text        textKind
	least, most int
}

var expKinds = [...]expHas{
	api.FormInt:  {number: true},
	api.FormNone: {},
	api.FormName: {text: nameText},
	api.FormSlot: {text: slotText, least: 1, most: 1},
	api.FormCall: {text: genText, least: 1, most: api.FormArgs},
	api.FormNew:  {text: classText},
	api.FormSet:  {text: slotText, least: 2, most: 2},
	api.FormTurn: {text: classText, least: 1, most: 1},
	api.FormLet:  {text: nameText, least: 2, most: 2},
	api.FormIf:   {least: 3, most: 3},
	api.FormSeq:  {least: 2, most: 2},
	api.FormAdd:  {least: 2, most: 2},
	api.FormSub:  {least: 2, most: 2},
	api.FormMul:  {least: 2, most: 2},
	api.FormLess: {least: 2, most: 2},
	api.FormSame: {least: 2, most: 2},
	api.FormOut:  {least: 1, most: 1},
	api.FormNext: {},
}

func (s *local) examineExp(e exp) {
	need(api.FormInt <= e.Op && e.Op <= api.FormNext)
	has := expKinds[e.Op]
	need(has.least <= len(e.Kids) && len(e.Kids) <= has.most)
	need(e.N == 0 || has.number && isNumber(e.N))
	switch has.text {
	case noText:
		need(e.Text == "")
	case nameText:
		need(Name(e.Text))
	case slotText:
		need(s.isSlot(e.Text))
	case classText:
		need(s.isClass(e.Text))
	case genText:
		s.meetGen(e.Text, len(e.Kids))
	}
	need(e.Op != api.FormNext || s.next)
}

// factHas is what facts of a kind have: a Name with a Path, a Class, an N, and
// how many Kids.
type factHas struct {
	path, class, number bool
	kids                int
}

var factKinds = [...]factHas{
	api.FactTrue: {},
	api.FactIs:   {path: true, class: true},
	api.FactLess: {path: true, number: true},
	api.FactSame: {path: true, number: true},
	api.FactNot:  {kids: 1},
	api.FactAnd:  {kids: 2},
	api.FactOr:   {kids: 2},
}

func (s *local) examineFact(f fact) {
	need(api.FactTrue <= f.Op && f.Op <= api.FactOr)
	has := factKinds[f.Op]
	need(len(f.Kids) == has.kids)
	need(f.N == 0 || has.number && isNumber(f.N))
	if has.class {
		need(s.isSort(f.Class))
	} else {
		need(f.Class == "")
	}
	if has.path {
		s.examinePath(f.Name, f.Path)
	} else {
		need(f.Name == "" && len(f.Path) == 0)
	}
}

func (s *local) examinePath(param string, path []string) {
	need(s.isParam(param) && len(path) <= api.FormPath)
	for _, slot := range path {
		need(s.isSlot(slot))
	}
}
