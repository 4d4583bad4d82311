package read_test

import (
	"math/rand"
	"regexp"
	"slices"
	"strings"
	"testing"

	"consort/api"
	"consort/read"
)

const keywords = "after and any around before class else if in int is let method new next none not or out set then true turn where"

// wrongKind stands for wrong bytes.
const wrongKind api.ReadKind = 0

var cuts = regexp.MustCompile(`^(?:([ \t\n]|%[^\n]*)|([a-z]+)|(~?[0-9]+)|([(){}\[\],;:.=<+\-*]))`)

// cutAgain cuts a text once more: into tokens and wrong bytes.
func cutAgain(s string) (l []api.ReadToken) {
	for at := 0; at < len(s); {
		t := api.ReadToken{Text: s[at : at+1], At: at, Line: 1 + strings.Count(s[:at], "\n")}
		m := cuts.FindStringSubmatch(s[at:])
		if m == nil {
			m = []string{t.Text, "", "", "", ""}
		}
		at += len(m[0])
		switch {
		case m[1] != "":
			continue
		case slices.Contains(strings.Fields(keywords), m[2]):
			t.Kind, t.Text = api.ReadWord, m[0]
		case m[2] != "" && len(m[2]) <= 8:
			t.Kind, t.Text = api.ReadName, m[0]
		case m[3] != "" && regexp.MustCompile(`^(0|~?[1-9][0-9]{0,9})$`).MatchString(m[3]):
			t.Kind, t.Text = api.ReadInt, m[0]
		case m[4] != "":
			t.Kind, t.Text = api.ReadSign, m[0]
		}
		l = append(l, t)
	}
	return l
}

func isWrong(t api.ReadToken) bool { return t.Kind == wrongKind }

func texts(l []api.ReadToken) (out []string) {
	for _, t := range l {
		out = append(out, t.Text)
	}
	return out
}

func TestTokens(t *testing.T) {
	for s, words := range map[string]string{
		"a<~5.b%":            "a < ~5 . b",
		"":                   "",
		" \t\n":              "",
		"%":                  "",
		"% a\nb% c":          "b",
		"then 1;2":           "then 1 ; 2",
		"thenx":              "thenx",
		"abcdefgh":           "abcdefgh",
		"a1b":                "a 1 b",
		"1a":                 "1 a",
		"1~2":                "1 ~2",
		"~1~2":               "~1 ~2",
		"0":                  "0",
		"0 0":                "0 0",
		"1234567890":         "1234567890",
		"~9999999999":        "~9999999999",
		"100":                "100",
		"(){}[],;:.=<+-*":    "( ) { } [ ] , ; : . = < + - *",
		"x%y\n%\n%%z%\n w":   "x w",
		"a-5 a - ~5":         "a - 5 a - ~5",
		"% \xff\x00 $\r\na":  "a",
		"truex true":         "truex true",
		"(a)":                "( a )",
		"zaz aza zz":         "zaz aza zz",
		"\n\n":               "",
		keywords:             keywords,
		"methods classs out": "methods classs out",
	} {
		got, e := read.Tokens(s)
		want(t, s, e, api.OK)
		want(t, s, texts(got), texts(cutAgain(s)))
		want(t, s, strings.Join(texts(got), " "), words)
	}
}

func TestTokenFields(t *testing.T) {
	got, e := read.Tokens("class ab\n% x\n\n\t~12 }")
	want(t, "error", e, api.OK)
	want(t, "tokens", got, []api.ReadToken{
		{Kind: api.ReadWord, Text: "class", At: 0, Line: 1},
		{Kind: api.ReadName, Text: "ab", At: 6, Line: 1},
		{Kind: api.ReadInt, Text: "~12", At: 15, Line: 4},
		{Kind: api.ReadSign, Text: "}", At: 19, Line: 4},
	})
}

// wrongTexts are texts with a wrong byte, and where the first one is.
var wrongTexts = map[string]int{
	"07": 0, "~0": 0, "00": 0, "~05": 0, "abcdefghi": 0, "~": 0, "~a": 0, "a ~": 2, "~~5": 0, "~ 5": 0, "5~": 1,
	"12345678901": 0, "~12345678901": 0, "then A": 5, "then\r\n0": 4, "a_b": 1, "\x00": 0, "\v": 0, "\f": 0,
	"then é": 5, "x > y": 2, "'": 0, "%\n$": 2, "a/b": 1, "then 1 abcdefghi": 7, "\u00a0": 0, "\xff": 0,
}

func TestWrongBytes(t *testing.T) {
	for s, at := range wrongTexts {
		wrong := slices.DeleteFunc(cutAgain(s), func(x api.ReadToken) bool { return !isWrong(x) })
		want(t, s, wrong[0].At, at)
		_, e1 := read.Tokens(s)
		_, e2 := read.Next(s)
		p, faults, e3 := read.Mend(s)
		_, e4 := read.Parse(s)
		_, e5 := read.Spots(s)
		_, e6 := read.Exp(s)
		want(t, s, []api.Errno{e1, e2, e3, e4, e5, e6}, slices.Repeat([]api.Errno{api.ErrText}, 6))
		want(t, s, p, api.FormProg{})
		want(t, s, faults, nil)
	}
	for b := range 256 {
		s := string([]byte{byte(b)})
		_, e := read.Tokens(s)
		right := strings.Contains(" \t\n%(){}[],;:.=<+-*abcdefghijklmnopqrstuvwxyz0123456789", s)
		if right != (e == api.OK) {
			t.Errorf("the byte %d: %v", b, e)
		}
	}
}

func TestLongTexts(t *testing.T) {
	blanks := strings.Repeat(" ", api.ReadLong-6)
	for s, e := range map[string]api.Errno{
		blanks + "then 0":                api.OK,
		blanks + "then 00":               api.ErrLong,
		" " + blanks + "then 0":          api.ErrLong,
		blanks + "then 0 " + "$":         api.ErrLong,
		strings.Repeat("$", 1<<20):       api.ErrLong,
		"%" + strings.Repeat("x", 29999): api.OK,
	} {
		_, got := read.Tokens(s)
		want(t, "a long text", got, e)
	}
	for _, s := range []string{strings.Repeat(" ", api.ReadLong+1), strings.Repeat("$", api.ReadLong+1)} {
		tokens, e1 := read.Tokens(s)
		fault, e2 := read.Fault(s)
		next, e3 := read.Next(s)
		p, faults, e4 := read.Mend(s)
		q, e5 := read.Parse(s)
		spots, e6 := read.Spots(s)
		x, e7 := read.Exp(s)
		want(t, "errors", []api.Errno{e1, e2, e3, e4, e5, e6, e7}, slices.Repeat([]api.Errno{api.ErrLong}, 7))
		zero := tokens == nil && fault == api.ReadFault{} && next == nil && faults == nil && spots == nil
		if !zero || !alike(p, api.FormProg{}) || !alike(q, api.FormProg{}) || !alikeExp(x, api.FormExp{}) {
			t.Error("there is more than an error")
		}
	}
}

// TestRandomTokens holds what is cut against what is cut once more, and the
// text of each token against the bytes at its place.
func TestRandomTokens(t *testing.T) {
	r := rand.New(rand.NewSource(1))
	pieces := append(strings.Fields(keywords), "a", "abcdefgh", "abcdefghi", "0", "00", "7", "1234567890", "12345678901", "~", "$", "é", "%", "\n", " ", "\t", "\r", "(", ")", ".", "-", "*")
	for range 20000 {
		s := ""
		for range r.Intn(12) {
			s += pick(r, pieces...)
		}
		all := cutAgain(s)
		got, e := read.Tokens(s)
		if slices.ContainsFunc(all, isWrong) {
			want(t, s, e, api.ErrText)
			want(t, s, got, nil)
			continue
		}
		want(t, s, e, api.OK)
		want(t, s, got, all)
		for _, x := range got {
			want(t, s, s[x.At:x.At+len(x.Text)], x.Text)
		}
	}
}
