package read_test

import (
	"slices"
	"strings"
)

// grammar is the one of the chapter, row by row. What can come next, and
// where tokens are no beginning any more, is found here by going all ways
// through it at once.
const grammar = `
Text | ( Class )* ( Method )* then Exp
Class | class name [ ":" name ( "," name )* ] [ "{" name ( "," name )* "}" ] [ "[" Init ( "," Init )* "]" ]
Init | name "=" number
Method | Kind name "(" name ( "," name )* ")" [ where Fact ] "{" Exp "}"
Kind | method / before / after / around
Fact | Both ( or Both )*
Both | One ( and One )*
One | not One / true / "(" Fact ")" / name ( "." name )* Test
Test | is Sort / "<" number / "=" number
Sort | name / any / int / none
Exp | let name "=" Exp in Exp / Side [ ";" Exp ]
Side | Sum [ "<" Sum / "=" Sum ]
Sum | Product ( "+" Product / "-" Product )*
Product | Place ( "*" Place )*
Place | Atom ( "." name )*
Atom | number / none / next / name [ "(" Exp ( "," Exp )* ")" ] / new name / turn name "(" Exp ")" / set name "(" Exp "," Exp ")" / out "(" Exp ")" / if Exp "{" Exp "}" else "{" Exp "}" / "(" Exp ")"
Main | then Exp
`

// allNext are all texts that can come next, in their order.
var allNext = append(strings.Fields("0 a "+
	"after and any around before class else if in int is let method new next none not or out set then true turn where "+
	"( ) { } [ ] , ; : . = < + - *"), "")

// term is a piece of the grammar: a token, a row, or a choice of lists of
// terms, which may be left out, or repeated.
type term struct {
	token, row string
	choices    [][]*term
	none, many bool
}

// rows returns the grammar's rows.
func rows() map[string]*term {
	out := map[string]*term{}
	for _, line := range strings.Split(strings.TrimSpace(grammar), "\n") {
		name, row, _ := strings.Cut(line, " | ")
		words := strings.Fields(row)
		out[name] = &term{choices: choices(&words)}
	}
	return out
}

func choices(words *[]string) [][]*term {
	out := [][]*term{nil}
	add := func(t *term) { out[len(out)-1] = append(out[len(out)-1], t) }
	for len(*words) > 0 {
		w := (*words)[0]
		*words = (*words)[1:]
		switch {
		case w == "/":
			out = append(out, nil)
		case w == "[":
			add(&term{choices: choices(words), none: true})
		case w == "(":
			add(&term{choices: choices(words), none: true, many: true})
		case w == "]" || w == ")*":
			return out
		case w == "name":
			add(&term{token: "a"})
		case w == "number":
			add(&term{token: "0"})
		case w[0] >= 'A' && w[0] <= 'Z':
			add(&term{row: w})
		default:
			add(&term{token: strings.Trim(w, `"`)})
		}
	}
	return out
}

// way is what is still to come on one way through the grammar.
type way struct {
	first *term
	rest  *way
}

type walker struct {
	rows map[string]*term
	ways []*way // each begins with a token, or is nil: nothing has to come
}

func newWalker(row string) *walker {
	w := &walker{rows: rows()}
	w.open(&way{first: &term{row: row}})
	return w
}

// open adds all ways that a way can begin.
func (w *walker) open(at *way) {
	if at == nil || at.first.token != "" {
		w.ways = append(w.ways, at)
		return
	}
	t := at.first
	if t.row != "" {
		t = w.rows[t.row]
	}
	if t.none {
		w.open(at.rest)
	}
	for _, list := range t.choices {
		next := at.rest
		if t.many {
			next = at
		}
		for _, x := range slices.Backward(list) {
			next = &way{first: x, rest: next}
		}
		w.open(next)
	}
}

// can reports whether a token, or the end, can come next.
func (w *walker) can(key string) bool {
	return slices.ContainsFunc(w.ways, func(at *way) bool {
		if at == nil {
			return key == ""
		}
		return at.first.token == key
	})
}

func (w *walker) next() []string {
	return slices.DeleteFunc(slices.Clone(allNext), func(key string) bool { return !w.can(key) })
}

// step goes on by a token.
func (w *walker) step(key string) {
	old := w.ways
	w.ways = nil
	for _, at := range old {
		if at != nil && at.first.token == key {
			w.open(at.rest)
		}
	}
}

// faultIn returns the number of the first token that nothing can be continued
// with; that of the end if there is none; -1 if the tokens are a row.
func faultIn(row string, keys []string) int {
	w := newWalker(row)
	for i, key := range keys {
		if !w.can(key) {
			return i
		}
		w.step(key)
	}
	if w.can("") {
		return -1
	}
	return len(keys)
}
