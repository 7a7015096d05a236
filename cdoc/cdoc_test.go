package cdoc_test

import (
	"math/rand"
	"reflect"
	"slices"
	"strings"
	"testing"

	"abridger/api"
	"abridger/cdoc"
	"abridger/cinput"
	"abridger/clex"
	"abridger/cmin"
	"abridger/cvalue"
	"abridger/doc"
	"abridger/render"
)

var (
	hard  = api.Doc{Kind: api.DHard}
	space = api.Doc{Kind: api.DSpace}
	blank = doc.Text(" ", -1)
	gap   = doc.Text("/**/", -1)
)

func cat(kids ...api.Doc) api.Doc   { return doc.Cat(api.DCat, kids...) }
func nest(kids ...api.Doc) api.Doc  { return doc.Cat(api.DNest, kids...) }
func group(kids ...api.Doc) api.Doc { return doc.Cat(api.DGroup, nest(kids...)) }

func word(s string, from int) api.Doc { return doc.Text(s, from) }

func value(s string) []api.CTok { return cmin.Value([]byte(s)) }

func fair(s string, width, indent int) string {
	return render.Text(cdoc.Pieces(value(s), width, indent))
}

func TestP2201Doc(t *testing.T) {
	cases := []struct {
		s    string
		want api.Doc
	}{
		{"", cat()},
		{"a", cat(cat(group(word("a", 0))))},
		{"a;", cat(cat(group(word("a", 0), word(";", 1))))},
		{";b", cat(cat(group(word(";", 0))), hard, cat(group(word("b", 1))))},
		{"a{}", cat(cat(group(word("a", 0)), blank, word("{", 1), word("}", 2)))},
		{"{", cat(cat(group(), word("{", 0)))},
		{"a{b:c;d}", cat(cat(group(word("a", 0)), blank, word("{", 1),
			nest(hard, cat(group(word("b", 2), word(":", 3), blank, word("c", 4), word(";", 5))), hard, cat(group(word("d", 6)))),
			hard, word("}", 7)))},
		{"a{b:", cat(cat(group(word("a", 0)), blank, word("{", 1), nest(hard, cat(group(word("b", 2), word(":", 3))))))},
		{"a b,c", cat(cat(group(word("a", 0), space, word("b", 2), word(",", 3), space, word("c", 4))))},
		{"a/**/b/**/:c", cat(cat(group(word("a", 0), gap, word("b", 5), word(":", 10), word("c", 11))))},
		{"/*!x*/a", cat(cat(word("/*!x*/", 0), hard, group(word("a", 6))))},
		{"/*!x*//*!y*/", cat(cat(word("/*!x*/", 0), hard, word("/*!y*/", 6), group()))},
		{"a/*!x*/b", cat(cat(group(word("a", 0), word("/*!x*/", 1), word("b", 7))))},
		{"/*!x*/{}", cat(cat(word("/*!x*/", 0), group(), blank, word("{", 6), word("}", 7)))},
		{"a{b:/*!x*/c/*!y*/d}", cat(cat(group(word("a", 0)), blank, word("{", 1),
			nest(hard, cat(group(word("b", 2), word(":", 3), blank, word("/*!x*/", 4), hard, word("c", 10), word("/*!y*/", 11), word("d", 17)))),
			hard, word("}", 18)))},
		{"'a\nb", cat(cat(group(word("'a", 0), hard, word("b", 3))))},
		{"a{color:blue/**/x}", cat(cat(group(word("a", 0)), blank, word("{", 1),
			nest(hard, cat(group(word("color", 2), word(":", 7), blank, word("#00f", 8), gap, word("x", 16)))), hard, word("}", 17)))},
		{"a{fill:red f()blue}", cat(cat(group(word("a", 0)), blank, word("{", 1),
			nest(hard, cat(group(word("fill", 2), word(":", 6), blank, word("#f00", 7), space, word("f(", 11), word(")", 13), word("#00f", 14)))), hard, word("}", 18)))},
		{`'a"'`, cat(cat(group(word(`"a\""`, 0))))},
		{"</**/!/**/--x", cat(cat(group(word("<", 0), word("!", 5), gap, word("--x", 10))))},
		{"a</**/!/**/--x", cat(cat(group(word("a", 0), word("<", 1), word("!", 6), gap, word("--x", 11))))},
	}
	for _, c := range cases {
		if got := cdoc.Doc(value(c.s)); !same(got, c.want) {
			t.Errorf("Doc of %q: %v, want %v", c.s, got, c.want)
		}
	}
}

// same compares documents; nil and empty lists are equal.
func same(a, b api.Doc) bool {
	return a.Kind == b.Kind && a.From == b.From && a.Text == b.Text && slices.EqualFunc(a.Kids, b.Kids, same)
}

func TestP2201Ahead(t *testing.T) {
	tok := func(s string) api.CTok { return clex.Split(cinput.Runes([]byte(s)))[0] }
	cases := []struct {
		l    []api.CTok
		want string
	}{
		// A gap that was put stops the look ahead: a and b don't join, b and ! do.
		{[]api.CTok{tok("a"), tok("b"), tok("!")}, "a/**/b!"},
		// So does a DSpace after a comma, and another list.
		{[]api.CTok{tok(","), tok("<"), tok("!"), tok("--x")}, ", <!/**/--x"},
		{[]api.CTok{tok("{"), tok("--x")}, "{\n  --x"},
		// ahead, a and b do not join, though any two of them do.
		{[]api.CTok{tok("<"), tok("!"), tok("--x"), tok(":")}, "<!/**/--x:"},
		// A CSpace may be ahead, as it is.
		{[]api.CTok{tok("a"), tok(" "), tok("!"), tok("b")}, "a !b"},
		{[]api.CTok{tok("a"), tok("\n"), tok("!"), tok("b")}, "a\n  !b"},
	}
	for _, c := range cases {
		if got := render.Text(cdoc.Pieces(c.l, 80, 2)); got != c.want+"\n" {
			t.Errorf("Pieces of %v: %q, want %q", c.l, got, c.want)
		}
	}
}

func TestP2201Wrong(t *testing.T) {
	a := value("a")[0]
	for _, l := range [][]api.CTok{{{}}, {a, {}}, {a, {Kind: api.COpen}, {Kind: api.CColour, Colour: [4]int{256}}}, {{Kind: api.CIdent, Text: "a", From: -1}}} {
		if got := cdoc.Doc(l); !same(got, cat()) {
			t.Errorf("Doc of %v: %v", l, got)
		}
		if got := cdoc.Pieces(l, 80, 2); len(got) != 0 {
			t.Errorf("Pieces of %v: %v", l, got)
		}
	}
}

func TestP2201Pieces(t *testing.T) {
	cases := []struct {
		s             string
		width, indent int
		want          string
	}{
		{"", 80, 2, ""},
		{" /* x */ ", 80, 2, ""},
		{"a{b:c}", 80, 2, "a {\n  b: c\n}\n"},
		{"@media x{a,b>c{d:e f,g;h:i}}j{}", 80, 4, "@media x {\n    a, b>c {\n        d: e f, g;\n        h: i\n    }\n}\nj {}\n"},
		{"aa bb,cc{dd:ee ff}", 7, 2, "aa\n  bb,\n  cc {\n  dd: ee\n    ff\n}\n"},
		{"a{b:c d e}", 9, 2, "a {\n  b: c\n    d\n    e\n}\n"},
		{"a{b:c d}", 8, 2, "a {\n  b: c d\n}\n"},
		{"/*!x*/a{/*!y*/b:c}/*!z*/", 80, 2, "/*!x*/\na {\n  /*!y*/\n  b: c\n}\n/*!z*/\n"},
		{"url(a b)", 80, 2, "url(a b)"},
		{"a url(a b", 80, 2, "a url(a b"},
		{"url(a b)c", 80, 2, "url(a b)c\n"},
		{"a{color:blue}", 80, 2, "a {\n  color: #00f\n}\n"},
		{"a{b", 80, 2, "a {\n  b\n"},
		{"a{b:'c\n;d:e}", 80, 2, "a {\n  b: 'c\n    ;\n  d: e\n}\n"},
		{"\\\n", 80, 2, "\\\n  \n"}, // the line break is within the group
	}
	for _, c := range cases {
		got := cdoc.Pieces(value(c.s), c.width, c.indent)
		if render.Text(got) != c.want {
			t.Errorf("%q becomes %q, want %q", c.s, render.Text(got), c.want)
		}
		if n := len(got); n > 0 && strings.HasSuffix(c.want, "\n") && got[n-1] != (api.Piece{Text: "\n", From: -1}) {
			t.Errorf("the last piece of %q: %v", c.s, got[n-1])
		}
	}
}

func anySheet(r *rand.Rand, n int) string {
	pieces := strings.Split("a|-|--|->|>|<|!|<!--|-->|1|.5|+|.|e3|1e3|%|#|#f00|red|@|@a|(|)|{|}|{|}|[|]|:|:|;|;|,|/|*|/*!x*/|'x\"'|\"\"|\"\n|\\\n|url(|url('')|url(a)|f(|\\|\n| | |/**/|/**/|blue|#fff|url(a b)|é|\\31 |px|{color:|;b:|E|a{b:", "|")
	s := ""
	for range n {
		s += pieces[r.Intn(len(pieces))]
	}
	return s
}

func TestP2202Consequences(t *testing.T) {
	r := rand.New(rand.NewSource(22))
	for range 8000 {
		s := anySheet(r, 1+r.Intn(14))
		width, indent := 1+r.Intn(30), r.Intn(5)
		l := value(s)
		was := slices.Clone(l)
		got := fair(s, width, indent)
		if !cvalue.Same(value(got), l) {
			t.Fatalf("%q becomes %q: %+v, want %+v", s, got, value(got), l)
		}
		if again := fair(got, width, indent); again != got {
			t.Fatalf("%q becomes %q", got, again)
		}
		for i := range l {
			l[i].From = 2*i + 1
		}
		if again := render.Text(cdoc.Pieces(l, width, indent)); again != got {
			t.Fatalf("%q with another From becomes %q", got, again)
		}
		for i := range l {
			l[i].From = was[i].From
		}
		if !slices.Equal(l, was) {
			t.Fatal("Pieces changes its argument")
		}
	}
}

func TestP2202Deep(t *testing.T) {
	deep := strings.Repeat("a{", 60) + strings.Repeat("}", 60)
	if got := fair(deep, 80, 2); !cvalue.Same(value(got), value(deep)) {
		t.Error("a style sheet of MaxDepth blocks")
	}
	deeper := value(strings.Repeat("{", 100000))
	if d := cdoc.Doc(deeper); len(d.Kids) != 1 || len(cdoc.Pieces(deeper, 80, 2)) != 0 {
		t.Error("a style sheet that is too deep for a layout")
	}
}

func TestP2202Memory(t *testing.T) {
	l := value("a{b:c}")
	first, second := cdoc.Doc(l), cdoc.Doc(l)
	first.Kids[0].Kids[0].Kids[0].Kids[0].Text = "z"
	if !reflect.DeepEqual(second, cdoc.Doc(l)) {
		t.Error("documents share memory")
	}
}
