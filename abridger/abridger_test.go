package abridger_test

import (
	"math"
	"math/rand"
	"strings"
	"testing"

	"abridger/abridger"
	"abridger/api"
	"abridger/drive"
)

const (
	jsonText = "{ \"a\" : [1.0, 2e0],\n\"b\":{} }"
	cssText  = "/*! x */\na , b { color : blue ; c : 0.50px }"
)

func short(t *testing.T, s string, lang int) string {
	t.Helper()
	got, fault := abridger.Short([]byte(s), lang)
	if fault != (api.Fault{}) {
		t.Errorf("Short(%q): %v", s, fault)
	}
	return string(got)
}

func fair(t *testing.T, s string, lang, width, indent int) string {
	t.Helper()
	got, fault := abridger.Fair([]byte(s), lang, width, indent)
	if fault != (api.Fault{}) {
		t.Errorf("Fair(%q): %v", s, fault)
	}
	return string(got)
}

func TestP2701Short(t *testing.T) {
	cases := []struct {
		s    string
		lang int
		want string
	}{
		{"", api.CSS, ""},
		{jsonText, api.JSON, `{"a":[1,2],"b":{}}`},
		{cssText, api.CSS, "/*! x */a,b{color:#00f;c:.5px}"},
	}
	for _, c := range cases {
		if got := short(t, c.s, c.lang); got != c.want {
			t.Errorf("Short(%q) = %q", c.s, got)
		}
	}
}

func TestP2701Fair(t *testing.T) {
	cases := []struct {
		s                   string
		lang, width, indent int
		want                string
	}{
		{"", api.CSS, 80, 2, ""},
		{jsonText, api.JSON, 80, 2, "{\"a\": [1, 2], \"b\": {}}\n"},
		{jsonText, api.JSON, 15, 1, "{\n \"a\": [1, 2],\n \"b\": {}\n}\n"},
		{cssText, api.CSS, 80, 4, "/*! x */\na, b {\n    color: #00f;\n    c: .5px\n}\n"},
	}
	for _, c := range cases {
		if got := fair(t, c.s, c.lang, c.width, c.indent); got != c.want {
			t.Errorf("Fair(%q) = %q", c.s, got)
		}
	}
}

func TestP2701Faults(t *testing.T) {
	cases := []struct {
		s                   string
		lang, width, indent int
		want                api.Fault
	}{
		{"", 0, 80, 2, api.Fault{Err: api.ErrArg}},
		{"", 3, 80, 2, api.Fault{Err: api.ErrArg}},
		{"[1 2]", api.JSON, 80, 2, api.Fault{Err: api.ErrSyntax, At: 3}},
		{"\xff", api.JSON, 80, 2, api.Fault{Err: api.ErrUtf}},
		{strings.Repeat("[", 61), api.JSON, 80, 2, api.Fault{Err: api.ErrDeep, At: 60}},
		{strings.Repeat("[", 62), api.CSS, 80, 2, api.Fault{Err: api.ErrDeep, At: 61}},
		{strings.Repeat("a", api.MaxBytes+1), api.CSS, 80, 2, api.Fault{Err: api.ErrLong, At: api.MaxBytes}},
	}
	for _, c := range cases {
		b := []byte(c.s)
		if got, fault := abridger.Short(b, c.lang); len(got) != 0 || fault != c.want {
			t.Errorf("Short(%.20q) = %q, %v", c.s, got, fault)
		}
		if got, fault := abridger.Fair(b, c.lang, c.width, c.indent); len(got) != 0 || fault != c.want {
			t.Errorf("Fair(%.20q) = %q, %v", c.s, got, fault)
		}
		if got, fault := abridger.Map(b, c.lang); got != "" || fault != c.want {
			t.Errorf("Map(%.20q) = %q, %v", c.s, got, fault)
		}
	}
	for _, size := range [][2]int{{0, 2}, {api.MaxWidth + 1, 2}, {80, -1}, {80, api.MaxIndent + 1}} {
		if got, fault := abridger.Fair([]byte("a"), api.CSS, size[0], size[1]); len(got) != 0 || fault != (api.Fault{Err: api.ErrArg}) {
			t.Errorf("Fair with %v = %q, %v", size, got, fault)
		}
	}
}

func TestP2701Map(t *testing.T) {
	for _, c := range []struct {
		s    string
		lang int
	}{{jsonText, api.JSON}, {cssText, api.CSS}, {"", api.CSS}} {
		o := api.Options{Lang: c.lang, Way: api.Min, Width: 80, Indent: 2, Depth: api.MaxDepth}
		_, want, _ := drive.Run([]byte(c.s), "", o)
		if got, fault := abridger.Map([]byte(c.s), c.lang); got != want || got == "" || fault != (api.Fault{}) {
			t.Errorf("Map(%q) = %q, %v", c.s, got, fault)
		}
	}
}

func TestP2701Origin(t *testing.T) {
	o := api.Options{Lang: api.CSS, Way: api.Pretty, Width: 80, Indent: 2, Depth: api.MaxDepth}
	// The output: "/*! x */", "a, b {", "  color: #00f;", "  c: .5px", "}", "".
	cases := []struct {
		line, col, srcLine, srcCol int
		ok                         bool
	}{
		{0, 0, 0, 0, true},
		{0, 99, 0, 0, true},
		{0, -1, 0, 0, false},
		{1, 0, 1, 0, true},
		{1, 1, 1, 2, true},
		{1, 2, 1, 2, true}, // the space comes from nowhere
		{1, 3, 1, 4, true},
		{1, math.MaxInt, 1, 6, true},
		{2, 1, 0, 0, false}, // ahead of the first one
		{2, 2, 1, 8, true},
		{2, 10, 1, 16, true},
		{3, 5, 1, 27, true},
		{4, 0, 1, 34, true},
		{5, 0, 0, 0, false},
		{-1, 0, 0, 0, false},
	}
	for _, c := range cases {
		srcLine, srcCol, ok := abridger.Origin([]byte(cssText), o, c.line, c.col)
		if srcLine != c.srcLine || srcCol != c.srcCol || ok != c.ok {
			t.Errorf("Origin of %d, %d: %d, %d, %v", c.line, c.col, srcLine, srcCol, ok)
		}
	}
	for _, o := range []api.Options{{}, {Lang: api.JSON, Way: api.Min, Width: 80, Indent: 2, Depth: 60}} {
		if srcLine, srcCol, ok := abridger.Origin([]byte(cssText), o, 0, 0); srcLine != 0 || srcCol != 0 || ok {
			t.Errorf("Origin with %+v: %d, %d, %v", o, srcLine, srcCol, ok)
		}
	}
}

func TestP2701Same(t *testing.T) {
	cases := []struct {
		a, b string
		lang int
		want bool
	}{
		{"[1, 2]", "[1.0,20e-1]", api.JSON, true},
		{"[1,2]", "[2,1]", api.JSON, false},
		{"[1", "[1", api.JSON, false},
		{"[1]", "[1", api.JSON, false},
		{"[1", "[1]", api.JSON, false},
		{"", "", api.JSON, false},
		{"", " /* x */", api.CSS, true},
		{"a{color:red}", "a { color : #F00 }", api.CSS, true},
		{"a{b:red}", "a{b:#f00}", api.CSS, false},
		{"a b", "a>b", api.CSS, false},
		{strings.Repeat(" ", api.MaxBytes+1), "", api.CSS, true}, // no limit here
		{"1", "1", 0, false},
		{"1", "1", 3, false},
	}
	for _, c := range cases {
		if got := abridger.Same([]byte(c.a), []byte(c.b), c.lang); got != c.want {
			t.Errorf("Same(%.20q, %.20q, %d) = %v", c.a, c.b, c.lang, got)
		}
	}
}

// check checks P2702 for a text.
func check(t *testing.T, s string, lang, width, indent int) {
	t.Helper()
	b := []byte(s)
	if _, fault := abridger.Short(b, lang); fault != (api.Fault{}) {
		return
	}
	min, pretty := short(t, s, lang), fair(t, s, lang, width, indent)
	if len(pretty) > api.MaxBytes {
		return
	}
	if !abridger.Same(b, []byte(min), lang) || !abridger.Same(b, []byte(pretty), lang) {
		t.Errorf("%q is not the same as %q or %q", s, min, pretty)
	}
	if got := short(t, min, lang); got != min {
		t.Errorf("Short of Short of %q: %q, want %q", s, got, min)
	}
	if got := short(t, pretty, lang); got != min {
		t.Errorf("Short of Fair of %q: %q, want %q", s, got, min)
	}
	if got := fair(t, pretty, lang, width, indent); got != pretty {
		t.Errorf("Fair of Fair of %q: %q, want %q", s, got, pretty)
	}
	if got := fair(t, min, lang, width, indent); got != pretty {
		t.Errorf("Fair of Short of %q: %q, want %q", s, got, pretty)
	}
	if string(b) != s {
		t.Errorf("%q is changed to %q", s, b)
	}
}

func TestP2702CSS(t *testing.T) {
	r := rand.New(rand.NewSource(27))
	pieces := strings.Split("a|-|--|->|>|<|!|<!--|-->|1|.5|+|.|e3|%|#|#f00|red|@|@a|(|)|{|}|{|}|[|]|:|:|;|;|,|/|*|/*!x*/|/*@license\n*/|'x\"'|\"\"|\"\n|\\\n|url(|url('')|url(a)|f(|\\|\n| | |/**/|blue|url(a b)|é|\x00|\xff|\r\n|px|{color:|;b:|E|a{b:", "|")
	for range 4000 {
		s := ""
		for range 1 + r.Intn(16) {
			s += pieces[r.Intn(len(pieces))]
		}
		check(t, s, api.CSS, 1+r.Intn(40), r.Intn(5))
	}
}

func TestP2702JSON(t *testing.T) {
	r := rand.New(rand.NewSource(28))
	for range 1500 {
		check(t, anyJSON(r, 5), api.JSON, 1+r.Intn(60), r.Intn(5))
	}
}

func anyJSON(r *rand.Rand, depth int) string {
	single := []string{"1", "-0", "1.50", "1e20", "0.0001", "123456789e-7", "true", "false", "null", `""`, `"a\u0062\/é"`, `"\ud800\n"`}
	blank := []string{"", " ", "\n\t"}[r.Intn(3)]
	kind := r.Intn(4)
	if depth == 0 || kind == 0 {
		return blank + single[r.Intn(len(single))] + blank
	}
	var items []string
	for range r.Intn(4) {
		item := anyJSON(r, depth-1)
		if kind == 1 {
			item = blank + single[9+r.Intn(3)] + ":" + item
		}
		items = append(items, item)
	}
	if kind == 1 {
		return "{" + strings.Join(items, ",") + blank + "}"
	}
	return "[" + strings.Join(items, ",") + blank + "]"
}

func TestP2702Deep(t *testing.T) {
	check(t, strings.Repeat("[", 60)+strings.Repeat("]", 60), api.JSON, 40, 2)
	check(t, strings.Repeat(`{"a":`, 60)+"1"+strings.Repeat("}", 60), api.JSON, 40, 2)
	check(t, strings.Repeat("a{", 61)+strings.Repeat("}", 61), api.CSS, 40, 2)
	check(t, strings.Repeat("a{", 60)+"b:c"+strings.Repeat("}", 60), api.CSS, 40, 2)
	check(t, strings.Repeat("(", 61), api.CSS, 40, 2)
}
