package cvalue_test

import (
	"slices"
	"strconv"
	"strings"
	"testing"

	"abridger/api"
	"abridger/cinput"
	"abridger/clex"
	"abridger/cspell"
	"abridger/cvalue"
)

func split(s string) []api.CTok { return clex.Split(cinput.Runes([]byte(s))) }

// show writes tokens so that a test can tell them apart.
func show(l []api.CTok) string {
	var out []string
	for _, t := range l {
		out = append(out, strings.ReplaceAll(cspell.Spell(t), "\n", "$"))
	}
	return strings.Join(out, "|")
}

func TestP1801Keeps(t *testing.T) {
	for _, s := range []string{"!", "! x", "@license", "a @license b", "a@preserve", "@license\n"} {
		if !cvalue.Keeps(s) {
			t.Errorf("Keeps(%q) is false", s)
		}
	}
	for _, s := range []string{"", " !", "a!", "@License", "license", "preserve", "@ preserve", "@licens"} {
		if cvalue.Keeps(s) {
			t.Errorf("Keeps(%q) is true", s)
		}
	}
}

func TestP1801Colons(t *testing.T) {
	cases := []struct{ s, want string }{
		{"", ""},
		{"a:b", ""}, // in no block
		{"a{b:c}", "3"},
		{"a{b:c;d:e;f:g", "3 7 11"},
		{"a{ b/**/ :c}", "6"},
		{"a{b:c:d}", "3"},
		{"a{b c:d}", ""},
		{"a{:c}", ""},
		{"a{1:c}", ""},
		{"a{b():c}", ""},
		{"a{b:c{d:e}f:g}", "7 11"}, // the first one opens a block
		{"a{b:c{", ""},
		{"a{b:c;d{", "3"},
		{"a{b:c(d{e:f})", "3"},    // a COpen that is nested deeper, and a colon in brackets
		{"a{b:(c{", "3"},          // likewise, up to the end
		{"a{b:c(};d{e}", "3"},     // the closing token closes nothing
		{"a{b:c[;]d{}}", ""},      // the CSemi is nested deeper
		{"(a{b:c})", ""},          // not at block level
		{"a{b{}c:d}", "6"},        // after a CClose
		{"a{b;c:d}", "5"},         // after a CSemi
		{"a{(;)c:d}", ""},         // not after a CSemi in brackets
		{"}a{b:c}", "4"},          // a CClose that closes nothing
		{"a}b{c;}d:e", ""},        // out of the block again
		{"a{}b:c}d:e", ""},        // never in a block
		{"a{b}:c}", ""},           // directly after a CClose, and in no block
		{"{a:b}", "2"},            // a block without anything before it
		{"{{a:b;}c:d}", "3 8"},    // blocks in blocks
		{"a{b:c}d{e:f", "3 9"},    // one that is not closed
		{"a{--x:{a:b}}", "6"},     // a block as a value opens a block
		{"a{b:url(x):c}", "3"},    // a url is one token
		{"a{b:#{c:d}", "7"},       // a delim before the block
		{"a{\"b\":c}", ""},        // not a CIdent
		{"a{@b:c}", ""},           // nor is this
		{"a{b:c}}d{e:f}", "3 10"}, // one CClose too many
	}
	for _, c := range cases {
		var got []string
		for _, i := range cvalue.Colons(split(c.s)) {
			got = append(got, strconv.Itoa(i))
		}
		if s := strings.Join(got, " "); s != c.want {
			t.Errorf("Colons of %q: %s, want %s", c.s, s, c.want)
		}
	}
}

func TestP1802Of(t *testing.T) {
	cases := []struct{ s, want string }{
		{"", ""},
		{" ", ""},
		{" a ", "a"},
		{"a\n\tb", "a| |b"},
		{"a/**/b", "a|b"},
		{"a /*x*/ b", "a| |b"},
		{"a/*!x*/b", "a|/*!x*/|b"},
		{"a /*!x*//*y*/ /*@license*/b", "a|/*!x*/|/*@license*/| |b"},
		{"/*!x*/ a /*!y*/", "/*!x*/|a|/*!y*/"},
		{" /*!x*/ ", "/*!x*/"},
		{"a { b } c", "a|{|b|}|c"},
		{"a ( b ) c", "a| |(|b|)| |c"},
		{"a( b )c", "a(|b|)|c"},
		{"a [ b ] c", "a| |[|b|]| |c"},
		{"a , b ; c", "a|,|b|;|c"},
		{"a : b", "a| |:| |b"},
		{"a{b : c : d}", "a|{|b|:|c| |:| |d|}"},
		{"a{b /*!x*/ : /*!y*/ c}", "a|{|b|/*!x*/|:|/*!y*/|c|}"},
		{"a > b + c", "a| |>| |b| |+| |c"},
		{"'a\n b", "'a|$|b"},
		{"'a\n", "'a|$"},
		{"'a\n;", "'a|$|;"},
		{"'a\n/*!x*/ /*y*/ b", "'a|$|/*!x*/|b"},
		{"\\\n b", "\\|$|b"},
		{"{\\\n}", "{|\\|$|}"},
		{"a \n b", "a| |b"},
		{"a\nb", "a| |b"},
		{"<!-- a -->", "<!--| |a| |-->"},
	}
	for _, c := range cases {
		got := cvalue.Of(split(c.s))
		if show(got) != c.want {
			t.Errorf("Of %q: %s, want %s", c.s, show(got), c.want)
		}
		if again := cvalue.Of(got); !slices.Equal(bare(again), bare(got)) {
			t.Errorf("P1803: %q becomes %s", c.s, show(again))
		}
	}
}

// bare returns l without the From of CSpace tokens.
func bare(l []api.CTok) []api.CTok {
	out := slices.Clone(l)
	for i := range out {
		if out[i].Kind == api.CSpace {
			out[i].From = 0
		}
	}
	return out
}

func TestP1802From(t *testing.T) {
	l := cvalue.Of(split("a/**/ /*!x*/ b"))
	var froms []int
	for _, tok := range l {
		froms = append(froms, tok.From)
	}
	if !slices.Equal(froms, []int{0, 6, 5, 13}) {
		t.Errorf("From: %v", froms)
	}
}

func TestP1802AnyTokens(t *testing.T) {
	space := api.CTok{Kind: api.CSpace, Text: "odd", Flag: true, From: 3}
	bad := api.CTok{Kind: api.CBadStr, Text: "'"}
	want := []api.CTok{{Kind: 99}, {Kind: api.CSpace, Text: " ", From: 3}, {Kind: api.CColour}}
	if got := cvalue.Of([]api.CTok{{Kind: 99}, space, space, {Kind: api.CColour}}); !slices.Equal(got, want) {
		t.Errorf("Of: %v", got)
	}
	// Without a CSpace, nothing is put after a line-bound token.
	l := []api.CTok{bad, {Kind: api.CComment, Text: "!"}, {Kind: api.COpen}}
	if got := cvalue.Of(l); !slices.Equal(got, l) {
		t.Errorf("Of: %v", got)
	}
}

func TestP1802Same(t *testing.T) {
	a, b := split("a{b:1px}"), split("a{b:1.0px}")
	if !cvalue.Same(a, a) || !cvalue.Same(nil, []api.CTok{}) || cvalue.Same(a, b) || cvalue.Same(a, a[1:]) {
		t.Error("Same")
	}
	for i := range b {
		b[i] = a[i]
		b[i].From += 7
	}
	if !cvalue.Same(a, b) || b[0].From != 7 {
		t.Error("Same with another From")
	}
}

func TestP1803AnyTokens(t *testing.T) {
	pieces := strings.Split("a|:|;|{|}|(|)|[|]|,| |/**/|/*!x*/|'b\n|\\\n|f(", "|")
	for i := range len(pieces) * len(pieces) * len(pieces) * len(pieces) {
		s := "{"
		for n := i; len(s) < 2 || n > 0; n /= len(pieces) {
			s += pieces[n%len(pieces)]
		}
		l := split(s)
		was := slices.Clone(l)
		got := cvalue.Of(l)
		if !slices.Equal(bare(cvalue.Of(got)), bare(got)) {
			t.Fatalf("P1803: %q becomes %s", s, show(cvalue.Of(got)))
		}
		if !slices.Equal(l, was) {
			t.Fatal("Of changes its argument")
		}
	}
}
