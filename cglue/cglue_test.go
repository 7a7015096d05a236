package cglue_test

import (
	"testing"

	"abridger/api"
	"abridger/cglue"
	"abridger/cinput"
	"abridger/clex"
)

// one returns the first token of s.
func one(s string) api.CTok { return clex.Split(cinput.Runes([]byte(s)))[0] }

func TestP1701Joins(t *testing.T) {
	cases := []struct {
		texts []string
		want  bool
	}{
		{nil, true},
		{[]string{"a"}, true},
		{[]string{"a", "b"}, false},
		{[]string{"a", " ", "b"}, true},
		{[]string{"a", "("}, false},
		{[]string{"a", "/*!x*/", "("}, true},
		{[]string{"a", "1"}, false},
		{[]string{"1", "a"}, false},
		{[]string{"1", "%"}, false},
		{[]string{"1", ".5"}, false},
		{[]string{"1.5", ".5"}, true},
		{[]string{"1", "+1"}, true},
		{[]string{"1", "-1"}, true},
		{[]string{"1", "2"}, false},
		{[]string{".", "5"}, false},
		{[]string{"+", ".5"}, false},
		{[]string{"-", "a"}, false},
		{[]string{"#", "a"}, false},
		{[]string{"@", "a"}, false},
		{[]string{"/", "*"}, false},
		{[]string{"/", "/*!*/"}, true},
		{[]string{"*", "/"}, true},
		{[]string{"<", "!"}, true},
		{[]string{"<", "!", "--"}, false},
		{[]string{"-", "->"}, false},
		{[]string{`"a"`, "b", `"c"`}, true},
		{[]string{" ", " "}, false},
		{[]string{"\n", " "}, false},
		{[]string{"\"a\n", "\n"}, true},
		{[]string{"\"a\n", " "}, false},
		{[]string{"\"a\n"}, true},
		{[]string{"b", "\"a\n"}, true},
		{[]string{"\\\n", "\n"}, true},
		{[]string{"\\\n", "a"}, false},
		{[]string{"url('')"}, true},
		{[]string{"a", "url('')"}, false},
		{[]string{":", "url('')"}, true},
		{[]string{"url('')", `""`}, true},
		{[]string{"url('')", "a"}, false},
		{[]string{"url('')", " "}, false},
		{[]string{"url(a)", "b"}, true},
		{[]string{"url(a b"}, true},
		{[]string{"url(a b", ")"}, false},
	}
	for _, c := range cases {
		var l []api.CTok
		for _, s := range c.texts {
			l = append(l, one(s))
		}
		if got := cglue.Joins(l...); got != c.want {
			t.Errorf("Joins of %q is %v", c.texts, got)
		}
	}
	if cglue.Joins(api.CTok{}) || cglue.Joins(one("a"), api.CTok{Kind: api.CColour, Colour: [4]int{0, 0, 0, 255}}) {
		t.Error("Joins of a wrong token is true")
	}
	if cglue.Joins(one(":"), api.CTok{Kind: api.CSemi, From: -1}) {
		t.Error("Joins of a token with a negative From is true")
	}
}

func TestP1701Needs(t *testing.T) {
	none := api.CTok{}
	cases := []struct {
		ahead, a, b api.CTok
		want        bool
	}{
		{none, one("a"), one("b"), true},
		{none, one("a"), one(":"), false},
		{none, one("!"), one("--"), false},
		{one("<"), one("!"), one("--"), true},
		{one("a"), one("b"), one(":"), true}, // ahead and a must join, too
		{one(":"), one("b"), one(":"), false},
		{api.CTok{Text: "x"}, one("b"), one(":"), false}, // the Kind tells that there is none
		{none, none, one("b"), true},
		{none, one("b"), none, true},
		{api.CTok{Kind: -1}, one("b"), one(":"), true},
	}
	for _, c := range cases {
		if got := cglue.Needs(c.ahead, c.a, c.b); got != c.want {
			t.Errorf("Needs of %v, %v, %v is %v", c.ahead, c.a, c.b, got)
		}
	}
}

func TestP1701Texts(t *testing.T) {
	a := api.CTok{Kind: api.CIdent, Text: "a", From: 5}
	bad := api.CTok{Kind: api.CBadStr, Text: "'a"}
	slash := api.CTok{Kind: api.CDelim, Text: `\`}
	url := api.CTok{Kind: api.CFunc, Text: "uRL"}
	comment := api.CTok{Kind: api.CComment, Text: "x"}
	cases := []struct {
		l    []string
		t    []api.CTok
		want bool
	}{
		{nil, nil, true},
		{[]string{""}, nil, false},
		{nil, []api.CTok{a}, false},
		{[]string{"a"}, []api.CTok{a}, true},
		{[]string{`\61`}, []api.CTok{a}, true}, // any spelling
		{[]string{"b"}, []api.CTok{a}, false},
		{[]string{"a", ""}, []api.CTok{a}, false},
		{[]string{"a/*x*/", ""}, []api.CTok{a, comment}, true},
		{[]string{"a/*x*/"}, []api.CTok{a}, false}, // comments count
		{[]string{"'a"}, []api.CTok{bad}, true},
		{[]string{"'a\n"}, []api.CTok{bad}, true}, // the blanks are one token
		{[]string{"'a", "'"}, []api.CTok{bad}, false},
		{[]string{`\`}, []api.CTok{slash}, true},
		{[]string{"a", `\`}, []api.CTok{a, slash}, true},
		{[]string{"uRL("}, []api.CTok{url}, true},
		{[]string{"uRL(", "a"}, []api.CTok{url, a}, false},
		{[]string{"\"\"", "a"}, []api.CTok{{Kind: api.CString}, a}, true},
		{[]string{"#fff"}, []api.CTok{{Kind: api.CColour, Colour: [4]int{255, 255, 255, 255}}}, false},
	}
	for _, c := range cases {
		if got := cglue.Texts(c.l, c.t); got != c.want {
			t.Errorf("Texts of %q, %v is %v", c.l, c.t, got)
		}
	}
}

func TestP1702Arguments(t *testing.T) {
	l := make([]api.CTok, 1, 4)
	l[0] = one("'a\n")
	if !cglue.Joins(l...) || !cglue.Joins(l...) || l[:2][1] != (api.CTok{}) || l[0] != one("'a\n") {
		t.Error("Joins changes its argument or answers differently")
	}
}
