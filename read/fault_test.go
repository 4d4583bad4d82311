package read_test

import (
	"math/rand"
	"slices"
	"strings"
	"testing"

	"consort/api"
	"consort/read"
)

func TestFault(t *testing.T) {
	for s, fault := range map[string]api.ReadFault{
		"then 1 +":                           {At: 8, Line: 1},
		"then x y":                           {At: 7, Line: 1, Text: "y"},
		"class a then 0 $":                   {At: 15, Line: 1, Text: "$"},
		"0":                                  {At: 0, Line: 1, Text: "0"},
		"":                                   {At: 0, Line: 1},
		" \n ":                               {At: 3, Line: 2},
		"then\n\n":                           {At: 6, Line: 3},
		"then ) ) )":                         {At: 5, Line: 1, Text: ")"},
		"$":                                  {At: 0, Line: 1, Text: "$"},
		"then $":                             {At: 5, Line: 1, Text: "$"},
		"$ then":                             {At: 0, Line: 1, Text: "$"},
		"$h":                                 {At: 0, Line: 1, Text: "$"},
		"\xc3a":                              {At: 0, Line: 1, Text: "\xc3"},
		"$ then )":                           {At: 0, Line: 1, Text: "$"},
		"then $ x y":                         {At: 5, Line: 1, Text: "$"},
		"then x y $":                         {At: 7, Line: 1, Text: "y"},
		"then x $ y":                         {At: 7, Line: 1, Text: "$"},
		"then 1\n$ 2":                        {At: 7, Line: 2, Text: "$"},
		"then 1 + $ )":                       {At: 9, Line: 1, Text: "$"},
		"then 1 ) $":                         {At: 7, Line: 1, Text: ")"},
		"then 1 %$\n) $":                     {At: 10, Line: 2, Text: ")"},
		"then $ é )":                         {At: 5, Line: 1, Text: "$"},
		"then abcdefghi )":                   {At: 5, Line: 1, Text: "a"},
		"then 07 )":                          {At: 5, Line: 1, Text: "0"},
		"class a $ then":                     {At: 8, Line: 1, Text: "$"},
		"class 5 $":                          {At: 6, Line: 1, Text: "5"},
		"\n\n~ 5":                            {At: 2, Line: 3, Text: "~"},
		"then x abcdefghi é":                 {At: 7, Line: 1, Text: "a"},
		"then é":                             {At: 5, Line: 1, Text: "\xc3"},
		"then 0 ~0":                          {At: 7, Line: 1, Text: "~"},
		"then\n1 2 $":                        {At: 7, Line: 2, Text: "2"},
		"class a : then 0":                   {At: 10, Line: 1, Text: "then"},
		"class a { } then 0":                 {At: 10, Line: 1, Text: "}"},
		"class class":                        {At: 6, Line: 1, Text: "class"},
		"class a { f } : b then 0":           {At: 14, Line: 1, Text: ":"},
		"class a [ f = b ] then 0":           {At: 14, Line: 1, Text: "b"},
		"method f() { 0 } then 0":            {At: 9, Line: 1, Text: ")"},
		"method f(x) { } then 0":             {At: 14, Line: 1, Text: "}"},
		"method f(x) { x } class a":          {At: 18, Line: 1, Text: "class"},
		"method f(x) where x { x }":          {At: 20, Line: 1, Text: "{"},
		"method f(x) where x.f { x }":        {At: 22, Line: 1, Text: "{"},
		"method f(x) where x is new":         {At: 23, Line: 1, Text: "new"},
		"method f(x) where (x) is a":         {At: 20, Line: 1, Text: ")"},
		"method f(x) where not { x }":        {At: 22, Line: 1, Text: "{"},
		"then 1 < 2 < 3":                     {At: 11, Line: 1, Text: "<"},
		"then 1 < 2 = 3":                     {At: 11, Line: 1, Text: "="},
		"then 1 + let x = 2 in x":            {At: 9, Line: 1, Text: "let"},
		"then let x = 1; 2":                  {At: 17, Line: 1},
		"then f()":                           {At: 7, Line: 1, Text: ")"},
		"then new a(0)":                      {At: 10, Line: 1, Text: "("},
		"then turn a":                        {At: 11, Line: 1},
		"then turn a(0, 0)":                  {At: 13, Line: 1, Text: ","},
		"then set f(0)":                      {At: 12, Line: 1, Text: ")"},
		"then out()":                         {At: 9, Line: 1, Text: ")"},
		"then if 1 { 2 }":                    {At: 15, Line: 1},
		"then (1).2":                         {At: 9, Line: 1, Text: "2"},
		"then x.f(0)":                        {At: 8, Line: 1, Text: "("},
		"then -1":                            {At: 5, Line: 1, Text: "-"},
		"then 0 then 0":                      {At: 7, Line: 1, Text: "then"},
		"then 0 % then )":                    {},
		"class a : b { f } [ g = 0 ] then 0": {},
		"then x.f; y":                        {},
	} {
		e := api.OK
		if fault == (api.ReadFault{}) {
			e = api.ErrNone
		}
		got, gotE := read.Fault(s)
		want(t, s, gotE, e)
		want(t, s, got, fault)
	}
	if _, e := read.Fault(source); e != api.ErrNone {
		t.Error("the example has a fault")
	}
}

func TestNext(t *testing.T) {
	exp := "0 a if let new next none out set turn ("
	atom := "0 a if new next none out set turn ("
	behind := "; . = < + - *"
	for s, words := range map[string]string{
		"":                                     "after around before class method then",
		"% nothing\n":                          "after around before class method then",
		"class":                                "a",
		"class a":                              "after around before class method then { [ :",
		"class a :":                            "a",
		"class a : b":                          "after around before class method then { [ ,",
		"class a {":                            "a",
		"class a { f":                          "} ,",
		"class a { f }":                        "after around before class method then [",
		"class a [":                            "a",
		"class a [ f":                          "=",
		"class a [ f =":                        "0",
		"class a [ f = 7":                      "] ,",
		"class a [ f = 7 ]":                    "after around before class method then",
		"around":                               "a",
		"method f":                             "(",
		"method f(":                            "a",
		"method f(x":                           ") ,",
		"method f(x)":                          "where {",
		"method f(x) where":                    "a not true (",
		"method f(x) where not":                "a not true (",
		"method f(x) where (":                  "a not true (",
		"method f(x) where x":                  "is . = <",
		"method f(x) where x.":                 "a",
		"method f(x) where x.f":                "is . = <",
		"method f(x) where x is":               "a any int none",
		"method f(x) where x is a":             "and or {",
		"method f(x) where (true":              "and or )",
		"method f(x) where true and":           "a not true (",
		"method f(x) where x.f <":              "0",
		"method f(x) where x =":                "0",
		"method f(x) {":                        exp,
		"method f(x) { x":                      "( } " + behind,
		"method f(x) { x }":                    "after around before method then",
		"then":                                 exp,
		"then 0":                               behind + " end",
		"then x":                               "( " + behind + " end",
		"then new":                             "a",
		"then new a":                           behind + " end",
		"then (":                               exp,
		"then (0":                              ") " + behind,
		"then 0 ;":                             exp,
		"then 0 <":                             atom,
		"then 0 < 1":                           "; . + - * end",
		"then 0 = 1 + 2":                       "; . + - * end",
		"then 0 +":                             atom,
		"then 0 *":                             atom,
		"then 0 .":                             "a",
		"then x.f":                             behind + " end",
		"then f(":                              exp,
		"then f(0":                             ") , " + behind,
		"then f(0)":                            behind + " end",
		"then f(0,":                            exp,
		"then turn":                            "a",
		"then turn a":                          "(",
		"then turn a(0":                        ") " + behind,
		"then set f(0":                         ", " + behind,
		"then set f(0, 1":                      ") " + behind,
		"then out":                             "(",
		"then out(0":                           ") " + behind,
		"then let":                             "a",
		"then let x":                           "=",
		"then let x =":                         exp,
		"then let x = 0":                       "in " + behind,
		"then let x = 0 in":                    exp,
		"then if":                              exp,
		"then if 0":                            "{ " + behind,
		"then if 0 { 1":                        "} " + behind,
		"then if 0 { 1 }":                      "else",
		"then if 0 { 1 } else":                 "{",
		"then if 0 { 1 } else { 2 }":           behind + " end",
		"then next":                            behind + " end",
		"then none":                            behind + " end",
		"class a then let x = y in x . f * (2": ") " + behind,
	} {
		l := strings.Fields(strings.Replace(words, "end", "\x00", 1))
		for i := range l {
			l[i] = strings.Trim(l[i], "\x00")
		}
		slices.SortStableFunc(l, func(a, b string) int { return slices.Index(allNext, a) - slices.Index(allNext, b) })
		got, e := read.Next(s)
		want(t, s, e, api.OK)
		want(t, s, got, l)
	}
	for _, s := range []string{"then )", "0", "then 0 0", "$", "then 0 $", "class a then 0 class"} {
		got, e := read.Next(s)
		want(t, s, e, api.ErrText)
		want(t, s, got, nil)
	}
}

func keysOf(l []api.ReadToken) (keys []string) {
	for _, x := range l {
		keys = append(keys, map[api.ReadKind]string{api.ReadName: "a", api.ReadInt: "0"}[x.Kind])
		if x.Kind == api.ReadWord || x.Kind == api.ReadSign {
			keys[len(keys)-1] = x.Text
		}
	}
	return keys
}

// randomTokens are those of a program, with something wrong more often than not.
func randomTokens(r *rand.Rand) []string {
	w := &writer{Rand: r}
	w.program(randomProgram(r))
	l := w.tokens
	for range r.Intn(3) {
		if len(l) == 0 {
			break
		}
		i, j := r.Intn(len(l)), r.Intn(len(l))
		other := pick(r, append(slices.Clone(allNext[:len(allNext)-1]), "a", "then", ")", "}")...)
		switch r.Intn(6) {
		case 0:
			l = slices.Delete(l, i, i+1)
		case 1:
			l = slices.Insert(l, i, other)
		case 2:
			l[i] = other
		case 3:
			l[i], l[j] = l[j], l[i]
		case 4:
			l = l[:i]
		case 5:
			l = slices.Insert(l, i, pick(r, "$", "~", "abcdefghi", "00", "é"))
		}
	}
	return l
}

// TestRandomFaults holds faults, and what can come next, against what all ways
// through the grammar say of the tokens ahead of the first wrong byte.
func TestRandomFaults(t *testing.T) {
	r := rand.New(rand.NewSource(2))
	for range 1500 {
		s, _, _ := strew(r, randomTokens(r))
		all := cutAgain(s)
		right := all
		if i := slices.IndexFunc(all, isWrong); i >= 0 {
			right = all[:i]
		}
		at := faultIn("Text", keysOf(right))
		if at < 0 {
			at = len(right)
		}
		fault, e := read.Fault(s)
		if at == len(all) && faultIn("Text", keysOf(all)) < 0 {
			want(t, s, e, api.ErrNone)
			want(t, s, fault, api.ReadFault{})
			continue
		}
		end := api.ReadToken{At: len(s), Line: 1 + strings.Count(s, "\n")}
		place := append(all, end)[at]
		want(t, s, e, api.OK)
		want(t, s, fault, api.ReadFault{At: place.At, Line: place.Line, Text: place.Text})
		expectMore(t, s, all[:at], all[at:])
	}
}

// expectMore asserts that something can come next ahead of a fault, but not
// the token, or the end, that stands there.
func expectMore(t *testing.T, s string, ahead, behind []api.ReadToken) {
	t.Helper()
	w := newWalker("Text")
	for _, key := range keysOf(ahead) {
		w.step(key)
	}
	fault, _ := read.Fault(s)
	next, e := read.Next(s[:fault.At])
	want(t, s, e, api.OK)
	want(t, s, next, w.next())
	there := false
	switch {
	case len(behind) == 0:
		there = slices.Contains(next, "")
	case !isWrong(behind[0]):
		there = slices.Contains(next, keysOf(behind[:1])[0])
	}
	if len(next) == 0 || there {
		t.Errorf("ahead of %+v in %q: %q", fault, s, next)
	}
}

// TestBehindWrongBytes puts tokens behind a wrong byte: they change no fault.
func TestBehindWrongBytes(t *testing.T) {
	r := rand.New(rand.NewSource(6))
	for range 300 {
		l := randomTokens(r)
		s := strings.Join(l[:r.Intn(len(l)+1)], " ") + pick(r, " $", "\n~", " abcdefghi", " 00", "\t\xc3")
		fault, e := read.Fault(s)
		want(t, s, e, api.OK)
		for _, more := range append(allNext, "\n% $", " $") {
			got, e := read.Fault(s + " " + more)
			want(t, s+" "+more, e, api.OK)
			want(t, s+" "+more, got, fault)
		}
	}
}

// TestNextGoesOn puts each text that can come next behind one, and those that
// cannot: with these alone the fault is there.
func TestNextGoesOn(t *testing.T) {
	r := rand.New(rand.NewSource(3))
	for range 60 {
		l := randomTokens(r)
		s := strings.Join(l[:r.Intn(len(l)+1)], " ")
		next, e := read.Next(s)
		if e != api.OK {
			continue
		}
		for _, more := range allNext {
			fault, e := read.Fault(s + " " + more)
			there := e == api.OK && fault.At == len(s)+1
			if there == slices.Contains(next, more) {
				t.Errorf("%q behind %q: %+v", more, s, fault)
			}
		}
	}
}
