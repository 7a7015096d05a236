package cmin_test

import (
	"math/rand"
	"slices"
	"strings"
	"testing"

	"abridger/api"
	"abridger/cglue"
	"abridger/cinput"
	"abridger/clex"
	"abridger/cmin"
	"abridger/cvalue"
)

func split(s string) []api.CTok { return clex.Split(cinput.Runes([]byte(s))) }

func text(l []api.Piece) string {
	var out strings.Builder
	for _, p := range l {
		out.WriteString(p.Text)
	}
	return out.String()
}

func short(s string) string { return text(cmin.Pieces(cmin.Value([]byte(s)))) }

func TestP2001Options(t *testing.T) {
	cases := []struct {
		t    api.CTok
		want []string
	}{
		{api.CTok{}, nil},
		{split("a")[0], []string{"a"}},
		{split("1.50e1px")[0], []string{"15e0px"}},
		{split("'a\"\\\nb'")[0], []string{`"a\"b"`, `'a"b'`}},
		{split(`"\a b\a g'"`)[0], []string{`"\a b\ag'"`, `'\a b\ag\''`}},
		{api.CTok{Kind: api.CString}, []string{`""`, `''`}},
		{api.CTok{Kind: api.CString, Text: "\x00"}, nil},
		{api.CTok{Kind: api.CString, From: -1}, nil},
		{api.CTok{Kind: api.CColour, Colour: [4]int{255, 0, 0, 255}}, []string{"#f00", "#ff0000", "red"}},
		{api.CTok{Kind: api.CColour, Colour: [4]int{255, 0, 0, 256}}, nil},
		{api.CTok{Kind: api.CIdent}, nil},
		{api.CTok{Kind: api.CSpace, Text: " "}, []string{" "}},
		{api.CTok{Kind: api.CComment, Text: "!x"}, []string{"/*!x*/"}},
	}
	for _, c := range cases {
		if got := cmin.Options(c.t); !slices.Equal(got, c.want) {
			t.Errorf("Options of %+v: %q", c.t, got)
		}
	}
}

func TestP2001Value(t *testing.T) {
	got := cmin.Value([]byte("a{ color : red }/**/ b"))
	want := split("a{color:red}b")
	want[4] = api.CTok{Kind: api.CColour, Colour: [4]int{255, 0, 0, 255}}
	if !cvalue.Same(got, want) || got[4].From != 11 {
		t.Errorf("Value: %+v", got)
	}
	if len(cmin.Value(nil)) != 0 {
		t.Error("Value of no bytes")
	}
}

func TestP2002Text(t *testing.T) {
	cases := []struct{ s, want string }{
		{"", ""},
		{" /* x */ ", ""},
		{"a { color : #FF0000 ; b : 0.50em } ", "a{color:red;b:.5em}"},
		{"a{color:blue}", "a{color:#00f}"},
		{"a{color:#00f;fill:#c0c0c0;stroke:black}", "a{color:#00f;fill:silver;stroke:#000}"},
		{"a{color:#ffffff80}", "a{color:#ffffff80}"},
		{"a{fill:#d2b48c}", "a{fill:tan}"},
		{"a{color:red/**/red}", "a{color:red#f00}"},
		{"a{color:#f00/**/b}", "a{color:red/**/b}"},
		{"a{color:#000/**/b}", "a{color:#000/**/b}"},
		{"a{color:f()#f00}", "a{color:f()red}"},
		{"a/**/b", "a/**/b"},
		{"1/**/a", "1/**/a"},
		{"1/**/-1", "1-1"},
		{"a/**/-->", "a/**/-->"},
		{"</**/!/**/--x", "<!/**/--x"},
		{"</**/!/**/-x", "<!-x"},
		{"-/**/-/**/x", "-/**/-/**/x"},
		{"a /* x */ b", "a b"},
		{"a/*! x */b", "a/*! x */b"},
		{"'a' \"b\"", `"a" "b"`},
		{`'a"b'`, `'a"b'`},
		{`"'\""`, `"'\""`},
		{"\"a\nb", "\"a\nb"},
		{"\"a\n", "\"a\n"},
		{"\\\n  a", "\\\na"},
		{"url( 'a' )", `url("a")`},
		{"url( a )", "url(a)"},
		{"url(a b", "url(a b"},
		{"U\\52L(x", "url(x)"},
		{"+1.0 -0.10 1e3 1000", "+1e0 -.1 1e3 1000"},
		{"@media  (a : b)  { c { d : e } }", "@media (a : b){c{d:e}}"},
		{"a>b , c + d", "a>b,c + d"},
		{"a\r\n\f\tb", "a b"},
		{"\xff\x00", "\ufffd\ufffd"},
	}
	for _, c := range cases {
		if got := short(c.s); got != c.want {
			t.Errorf("%q becomes %q, want %q", c.s, got, c.want)
		}
	}
}

func TestP2002Pieces(t *testing.T) {
	got := cmin.Pieces(cmin.Value([]byte(" a/**/b  c{color : #f00}")))
	want := []api.Piece{
		{Text: "a", From: 1}, {Text: "/**/", From: -1}, {Text: "b", From: 6}, {Text: " ", From: -1}, {Text: "c", From: 9},
		{Text: "{", From: 10}, {Text: "color", From: 11}, {Text: ":", From: 17}, {Text: "red", From: 19}, {Text: "}", From: 23},
	}
	if !slices.Equal(got, want) {
		t.Errorf("Pieces: %v", got)
	}
}

func TestP2002Wrong(t *testing.T) {
	a := split("a")[0]
	for _, l := range [][]api.CTok{nil, {{}}, {a, {}}, {{Kind: api.CColour, Colour: [4]int{-1}}, a}, {{Kind: api.CIdent}, a}} {
		if got := cmin.Pieces(l); len(got) != 0 {
			t.Errorf("Pieces of %v: %v", l, got)
		}
	}
	// A colour at the beginning, whose spelling decides what must follow it.
	red := api.CTok{Kind: api.CColour, Colour: [4]int{255, 0, 0, 255}}
	if got := text(cmin.Pieces([]api.CTok{red, {Kind: api.CLeft}})); got != "#f00(" {
		t.Errorf("Pieces of a colour and a bracket: %q", got)
	}
	// Any tokens: what can't be adjacent is kept apart.
	if got := text(cmin.Pieces([]api.CTok{a, a, {Kind: api.CBadStr, Text: "'"}, a})); got != "a/**/a'/**/a" {
		t.Errorf("Pieces of any tokens: %q", got)
	}
}

// slowly goes through all possibilities, the first ones first.
func slowly(l []api.CTok) string {
	best, found := "", false
	var rest func(i int, texts []string, gaps []bool, toks []api.CTok)
	rest = func(i int, texts []string, gaps []bool, toks []api.CTok) {
		for n := 2; n <= 3 && i > 0; n++ {
			at := i - n
			if at >= 0 && !gaps[i-1] && (n == 2 || !gaps[i-2]) && !cglue.Texts(texts[at:], toks[at:]) {
				return
			}
		}
		if i == len(l) {
			out := ""
			for k, s := range texts {
				if gaps[k] {
					out += "/**/"
				}
				out += s
			}
			if !found || len(out) < len(best) {
				best, found = out, true
			}
			return
		}
		for _, s := range cmin.Options(l[i]) {
			tok := l[i]
			if tok.Kind == api.CColour {
				tok = split(s)[0]
			}
			for _, gap := range []bool{false, true} {
				if i > 0 || !gap {
					rest(i+1, append(texts[:i:i], s), append(gaps[:i:i], gap), append(toks[:i:i], tok))
				}
			}
		}
	}
	rest(0, nil, nil, nil)
	return best
}

// anySheet makes a style sheet of tokens that get into each other's way.
func anySheet(r *rand.Rand, n int) string {
	pieces := strings.Split("a|-|--|->|>|<|!|<!--|-->|1|.5|+|.|e3|1e3|%|#|#f00|red|@|@a|(|)|{|}|[|]|:|;|,|/|*|/*!*/|'x\"'|\"\"|\"\n|\\\n|url(|url('')|url(a)|f(|\\|\n| | |/**/|/**/|blue|#fff|url(a b)|é|\\31 |px|e-|E", "|")
	s := ""
	for range n {
		s += pieces[r.Intn(len(pieces))]
	}
	return s
}

func TestP2002Slowly(t *testing.T) {
	r := rand.New(rand.NewSource(20))
	for range 3000 {
		s := anySheet(r, 1+r.Intn(6))
		if r.Intn(2) == 0 {
			s = "a{color:" + s
		}
		l := cmin.Value([]byte(s))
		if len(l) > 9 {
			continue
		}
		if got, want := text(cmin.Pieces(l)), slowly(l); got != want {
			t.Fatalf("%q becomes %q, want %q", s, got, want)
		}
	}
}

func TestP2003Consequences(t *testing.T) {
	r := rand.New(rand.NewSource(3))
	for range 8000 {
		s := anySheet(r, 1+r.Intn(12))
		if r.Intn(3) == 0 {
			s = "a{color:" + s
		}
		l := cmin.Value([]byte(s))
		got := text(cmin.Pieces(l))
		if !cvalue.Same(cmin.Value([]byte(got)), l) {
			t.Fatalf("%q becomes %q: %+v, want %+v", s, got, cmin.Value([]byte(got)), l)
		}
		if short(got) != got {
			t.Fatalf("%q becomes %q", got, short(got))
		}
	}
}

func TestP2003Arguments(t *testing.T) {
	s := "a/**/b{color:red 'x'}"
	l := cmin.Value([]byte(s))
	was := slices.Clone(l)
	for range 100 {
		if text(cmin.Pieces(l)) != `a/**/b{color:red "x"}` || !slices.Equal(l, was) {
			t.Fatal("Pieces changes its argument or answers differently")
		}
	}
}

func TestP2002Long(t *testing.T) {
	for _, s := range []string{"a ", "red/**/", "''", "1-", "{}", "#fff", "/*!*/"} {
		s = "a{color:" + strings.Repeat(s, (api.MaxBytes-10)/len(s))
		if got := short(s); len(got) > len(s) {
			t.Errorf("%d bytes become %d", len(s), len(got))
		}
	}
}
