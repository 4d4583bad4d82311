package read_test

import (
	"math/rand"
	"slices"
	"strings"
	"testing"

	"consort/api"
	"consort/read"
	"consort/shape"
)

func none() api.FormExp { return exp(api.FormNone, "") }

func fOf(x api.FormExp) api.FormMethod {
	return api.FormMethod{Kind: api.FormPrimary, Name: "f", Params: []string{"x"}, Fact: facts(api.FactTrue), Body: x}
}

func TestMend(t *testing.T) {
	f := fOf(name("x"))
	for s, expected := range map[string]struct {
		p      api.FormProg
		faults []api.ReadFault
	}{
		"class a { } method f(x) { x } then 1 then 2 class b": {
			api.FormProg{Classes: []api.FormClass{{Name: "b"}}, Methods: []api.FormMethod{f}, Main: num(1)},
			[]api.ReadFault{{At: 10, Line: 1, Text: "}"}, {At: 37, Line: 1, Text: "then"}},
		},
		"5 class":   {api.FormProg{Main: none()}, []api.ReadFault{{At: 0, Line: 1, Text: "5"}, {At: 7, Line: 1}}},
		"":          {api.FormProg{Main: none()}, nil},
		" % none\n": {api.FormProg{Main: none()}, nil},
		"a b c":     {api.FormProg{Main: none()}, []api.ReadFault{{At: 0, Line: 1, Text: "a"}}},
		"then":      {api.FormProg{Main: none()}, []api.ReadFault{{At: 4, Line: 1}}},
		"then\nthen 1\nthen 1 2": {
			api.FormProg{Main: num(1)},
			[]api.ReadFault{{At: 5, Line: 2, Text: "then"}, {At: 19, Line: 3, Text: "2"}},
		},
		"then 1 then 2 then 3": {
			api.FormProg{Main: num(1)},
			[]api.ReadFault{{At: 7, Line: 1, Text: "then"}, {At: 14, Line: 1, Text: "then"}},
		},
		"then none then 2": {api.FormProg{Main: none()}, []api.ReadFault{{At: 10, Line: 1, Text: "then"}}},
		"class a } class b": {
			api.FormProg{Classes: []api.FormClass{{Name: "b"}}, Main: none()},
			[]api.ReadFault{{At: 8, Line: 1, Text: "}"}},
		},
		"class a :\n class b [ f =\n method f(x) { x }": {
			api.FormProg{Methods: []api.FormMethod{f}, Main: none()},
			[]api.ReadFault{{At: 11, Line: 2, Text: "class"}, {At: 26, Line: 3, Text: "method"}},
		},
		"method f(x) { x } } before f": {
			api.FormProg{Main: none()},
			[]api.ReadFault{{At: 18, Line: 1, Text: "}"}, {At: 28, Line: 1}},
		},
		"then x method f(x) { x } class a class a : z, z": {
			api.FormProg{Classes: []api.FormClass{{Name: "a"}, {Name: "a", Parents: []string{"z", "z"}}},
				Methods: []api.FormMethod{f}, Main: name("x")},
			nil,
		},
		"around after class then before": {
			api.FormProg{Main: none()},
			[]api.ReadFault{{At: 7, Line: 1, Text: "after"}, {At: 13, Line: 1, Text: "class"}, {At: 19, Line: 1, Text: "then"},
				{At: 24, Line: 1, Text: "before"}, {At: 30, Line: 1}},
		},
	} {
		p, faults, e := read.Mend(s)
		want(t, s, e, api.OK)
		want(t, s, tidy(p), expected.p)
		want(t, s, faults, expected.faults)
	}
	p, faults, e := read.Mend("$")
	want(t, "$", e, api.ErrText)
	want(t, "$", p, api.FormProg{})
	want(t, "$", faults, nil)
}

// mendAgain tells which pieces of a text are good, and the faults of the others.
func mendAgain(s string) (good []string, faults []api.ReadFault) {
	all := cutAgain(s)
	end := api.ReadToken{At: len(s), Line: 1 + strings.Count(s, "\n")}
	begins := func(x api.ReadToken) bool {
		return slices.Contains(strings.Fields("class method before after around then"), x.Text)
	}
	main := false
	for from, to := 0, 0; from < len(all); from = to {
		for to = from + 1; to < len(all) && !begins(all[to]); {
			to++
		}
		piece := all[from:to]
		row := map[string]string{"class": "Class", "then": "Main"}[piece[0].Text]
		if row == "" {
			row = "Method"
		}
		at := faultIn(row, keysOf(piece))
		if row == "Main" && at < 0 && main {
			at = 0
		}
		main = main || row == "Main" && at < 0
		if at < 0 {
			good = append(good, strings.Join(texts(piece), " "))
			continue
		}
		place := append(slices.Clone(all), end)[from+at]
		faults = append(faults, api.ReadFault{At: place.At, Line: place.Line, Text: place.Text})
	}
	return good, faults
}

// TestRandomMends holds what is mended against the good pieces, put together
// as a text: classes, methods, and one Main.
func TestRandomMends(t *testing.T) {
	r := rand.New(rand.NewSource(4))
	for range 1000 {
		s, _, _ := strew(r, randomTokens(r))
		if slices.ContainsFunc(cutAgain(s), isWrong) {
			continue
		}
		good, faults := mendAgain(s)
		classes, methods, main := "", "", "then none"
		for _, piece := range good {
			switch first := strings.Fields(piece)[0]; {
			case first == "class":
				classes += piece + " "
			case first == "then":
				main = piece
			default:
				methods += piece + " "
			}
		}
		p, got, e := read.Mend(s)
		want(t, s, e, api.OK)
		want(t, s, got, faults)
		again, e := read.Parse(classes + methods + main)
		if e != api.OK {
			want(t, s, shape.Check(p), e)
			continue
		}
		want(t, s, tidy(p), tidy(again))
	}
}

// TestMendRight mends texts that can be read.
func TestMendRight(t *testing.T) {
	r := rand.New(rand.NewSource(5))
	for range 500 {
		p := randomProgram(r)
		w := &writer{Rand: r}
		w.program(p)
		s, _, _ := strew(r, w.tokens)
		got, faults, e := read.Mend(s)
		if e != api.OK || len(faults) > 0 || !alike(got, p) {
			t.Fatalf("%q is mended as %+v with %v", s, got, faults)
		}
	}
	p, faults, e := read.Mend(source)
	if e != api.OK || len(faults) > 0 || !alike(p, example()) {
		t.Error("the example is mended as another one")
	}
}
