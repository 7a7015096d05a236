package colour_test

import (
	"fmt"
	"slices"
	"strings"
	"testing"

	"abridger/api"
	"abridger/cinput"
	"abridger/clex"
	"abridger/colour"
)

// table is that of the document.
const table = `aqua 00ffff, azure f0ffff, beige f5f5dc, bisque ffe4c4, black 000000, blue 0000ff, brown a52a2a, coral ff7f50, fuchsia ff00ff, gold ffd700, gray 808080, green 008000, indigo 4b0082, ivory fffff0, khaki f0e68c, lime 00ff00, linen faf0e6, maroon 800000, navy 000080, olive 808000, orange ffa500, orchid da70d6, peru cd853f, pink ffc0cb, plum dda0dd, purple 800080, red ff0000, salmon fa8072, sienna a0522d, silver c0c0c0, snow fffafa, tan d2b48c, teal 008080, tomato ff6347, violet ee82ee, wheat f5deb3, white ffffff, yellow ffff00`

func split(s string) []api.CTok { return clex.Split(cinput.Runes([]byte(s))) }

func TestP1901Names(t *testing.T) {
	var want []string
	for _, row := range strings.Split(table, ", ") {
		name, digits, _ := strings.Cut(row, " ")
		want = append(want, name)
		c, ok := colour.Named(name)
		if got := fmt.Sprintf("%02x%02x%02x", c[0], c[1], c[2]); got != digits || c[3] != 255 || !ok {
			t.Errorf("Named(%s) = %v, %v", name, c, ok)
		}
		if upper, ok := colour.Named(strings.ToUpper(name)); upper != c || !ok {
			t.Errorf("Named of %s in upper case = %v, %v", name, upper, ok)
		}
		if spellings := colour.Spell(c); !slices.Contains(spellings, name) || !slices.Contains(spellings, "#"+digits) {
			t.Errorf("Spell(%v) = %q", c, spellings)
		}
	}
	if got := colour.Names(); !slices.Equal(got, want) {
		t.Errorf("Names: %q", got)
	}
}

func TestP1901NamedNone(t *testing.T) {
	for _, s := range []string{"", "cyan", "transparent", "red ", "reds", "blac\u212a", "\u212ahaki", "ſnow", "grey"} {
		if c, ok := colour.Named(s); c != [4]int{} || ok {
			t.Errorf("Named(%q) = %v, %v", s, c, ok)
		}
	}
	if c, ok := colour.Named("rEd"); c != [4]int{255, 0, 0, 255} || !ok {
		t.Errorf("Named(rEd) = %v, %v", c, ok)
	}
}

func TestP1901Read(t *testing.T) {
	cases := []struct {
		s    string
		want [4]int
		ok   bool
	}{
		{"red", [4]int{255, 0, 0, 255}, true},
		{"Navy", [4]int{0, 0, 128, 255}, true},
		{"#123", [4]int{0x11, 0x22, 0x33, 255}, true},
		{"#aBc4", [4]int{0xaa, 0xbb, 0xcc, 0x44}, true},
		{"#0f1E2d", [4]int{0x0f, 0x1e, 0x2d, 255}, true},
		{"#0f1e2d3c", [4]int{0x0f, 0x1e, 0x2d, 0x3c}, true},
		{"#\\31 23", [4]int{0x11, 0x22, 0x33, 255}, true}, // with the Flag
		{"#12", [4]int{}, false},
		{"#12345", [4]int{}, false},
		{"#1234567", [4]int{}, false},
		{"#123456789", [4]int{}, false},
		{"#abg", [4]int{}, false},
		{"#ab-", [4]int{}, false},
		{"#é1", [4]int{}, false},
		{"#red", [4]int{}, false},
		{"'red'", [4]int{}, false},
		{"red(", [4]int{}, false},
		{"@red", [4]int{}, false},
		{"none", [4]int{}, false},
		{"123", [4]int{}, false},
	}
	for _, c := range cases {
		if got, ok := colour.Read(split(c.s)[0]); got != c.want || ok != c.ok {
			t.Errorf("Read(%s) = %v, %v", c.s, got, ok)
		}
	}
	if got, ok := colour.Read(api.CTok{Kind: api.CHash}); got != [4]int{} || ok {
		t.Error("Read of an empty CHash")
	}
	if got, ok := colour.Read(api.CTok{Kind: api.CColour, Text: "red", Colour: [4]int{1, 2, 3, 4}}); got != [4]int{} || ok {
		t.Error("Read of a CColour")
	}
}

func TestP1902Spell(t *testing.T) {
	cases := []struct {
		c    [4]int
		want []string
	}{
		{[4]int{255, 255, 255, 255}, []string{"#fff", "#ffffff", "white"}},
		{[4]int{255, 0, 0, 255}, []string{"#f00", "#ff0000", "red"}},
		{[4]int{0x80, 0x80, 0x80, 255}, []string{"#808080", "gray"}},
		{[4]int{0xab, 0xcd, 0xef, 255}, []string{"#abcdef"}},
		{[4]int{0x11, 0x22, 0x33, 255}, []string{"#123", "#112233"}},
		{[4]int{255, 0, 0, 0}, []string{"#f000", "#ff000000"}},
		{[4]int{255, 0, 0, 254}, []string{"#ff0000fe"}},
		{[4]int{1, 2, 3, 0x44}, []string{"#01020344"}},
		{[4]int{-1, 0, 0, 255}, nil},
		{[4]int{0, 256, 0, 255}, nil},
		{[4]int{0, 0, 1 << 40, 0}, nil},
		{[4]int{0, 0, 0, 256}, nil},
		{[4]int{0, 0, 0, -1}, nil},
	}
	for _, c := range cases {
		got := colour.Spell(c.c)
		if !slices.Equal(got, c.want) {
			t.Errorf("Spell(%v) = %q", c.c, got)
		}
		for _, s := range got {
			if again, ok := colour.Read(split(s)[0]); again != c.c || !ok {
				t.Errorf("Read(%s) = %v, %v", s, again, ok)
			}
		}
	}
}

// marks returns the indexes of the tokens that Mark replaces.
func marks(t *testing.T, s string) string {
	t.Helper()
	l := split(s)
	was := slices.Clone(l)
	var out []string
	for i, tok := range colour.Mark(l) {
		if tok == l[i] {
			continue
		}
		out = append(out, fmt.Sprint(i))
		c, _ := colour.Read(l[i])
		if tok != (api.CTok{Kind: api.CColour, Colour: c, From: l[i].From}) {
			t.Errorf("Mark of %q: %+v becomes %+v", s, l[i], tok)
		}
	}
	if !slices.Equal(l, was) {
		t.Errorf("Mark changes %q", s)
	}
	return strings.Join(out, " ")
}

func TestP1902Mark(t *testing.T) {
	cases := []struct{ s, want string }{
		{"", ""},
		{"color:red", ""},
		{"a{color:red}", "4"},
		{"a{COLOR:#F00;b:red}", "4"},
		{"a{background-color:red;border-color:red blue;outline-color:red;fill:red;stroke:red;caret-color:red", "4 8 10 14 18 22 26"},
		{"a{background:red;border:1px red;-color:red;colors:red;\u212acolor:red}", ""},
		{"a{stro\u212ae:red}", ""},
		{"a{c\\6flor:red}", "4"}, // the name, however it is written
		{"a{color:f(red)red[red]red (red)", "7 11"},
		{"a{color:red{b:c}}", ""}, // no declaration
		{"a{color:(red};color:red", ""},
		{"a{color:red:blue}", "4 6"},
		{"a{color:red;red}red", "4"},
		{"red{red:red}", ""},
		{"a{color /**/ : red/**/#abcd}", "8 10"},
		{"a{color:'red' @red none #ab}", ""},
		{"a{b{color:red}color:red}", "6 10"},
		{"a{color:", ""},
	}
	for _, c := range cases {
		if got := marks(t, c.s); got != c.want {
			t.Errorf("Mark of %q replaces %s, want %s", c.s, got, c.want)
		}
	}
}

func TestP1903Memory(t *testing.T) {
	colour.Names()[0] = "x"
	colour.Spell([4]int{255, 0, 0, 255})[2] = "x"
	if colour.Names()[0] != "aqua" || colour.Spell([4]int{255, 0, 0, 255})[2] != "red" {
		t.Error("answers share memory")
	}
	l := split("a{color:red}")
	if !slices.Equal(colour.Mark(l), colour.Mark(l)) {
		t.Error("Mark answers differently")
	}
}
