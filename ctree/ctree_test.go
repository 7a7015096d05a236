package ctree_test

import (
	"math/rand"
	"reflect"
	"slices"
	"strings"
	"testing"

	"abridger/api"
	"abridger/cinput"
	"abridger/clex"
	"abridger/cspell"
	"abridger/ctree"
)

func split(s string) []api.CTok { return clex.Split(cinput.Runes([]byte(s))) }

// show writes nodes so that a test can tell them apart.
func show(l []api.CNode) string {
	out := ""
	for _, n := range l {
		switch n.Kind {
		case api.NRule:
			out += "R<" + texts(n.Head) + "|" + show(n.Kids) + "|" + texts(n.Tail)
		case api.NDecl:
			out += "D<" + texts(n.Head) + "|" + texts(n.Tail) + show(n.Kids)
		case api.NPlain:
			out += "P<" + texts(n.Head) + texts(n.Tail) + show(n.Kids)
		default:
			out += "?<"
		}
		for _, flag := range []struct {
			ok bool
			c  string
		}{{n.Open, "o"}, {n.Shut, "s"}, {n.Semi, ";"}} {
			if flag.ok {
				out += flag.c
			}
		}
		out += ">"
	}
	return out
}

func texts(l []api.CTok) string {
	out := ""
	for _, t := range l {
		out += cspell.Spell(t)
	}
	return out
}

func TestP2101Parse(t *testing.T) {
	cases := []struct{ s, want string }{
		{"", ""},
		{"a", "P<a>"},
		{";", "P<;>"},
		{"a;b", "P<a;>P<b>"},
		{"a{}", "R<a||os>"},
		{"a{", "R<a||o>"},
		{"{}", "R<||os>"},
		{"{", "R<||o>"},
		{"a{b:c}", "R<a|D<b|c>|os>"},
		{"a{b:c;d:e;}f", "R<a|D<b|c;>D<d|e;>|os>P<f>"},
		{"a{b:c{d:e}f:g", "R<a|R<b:c|D<d|e>|os>D<f|g>|o>"},
		{"a:b;", "P<a:b;>"}, // in no block
		{"a{b c:d}", "R<a|P<b c:d>|os>"},
		{"a{b:}", "R<a|D<b|>|os>"},
		{"a{b:;}", "R<a|D<b|;>|os>"},
		{"}", "P<}>"},
		{"a}b;c", "P<a}b;>P<c>"},
		{"a{}};b", "R<a||os>P<};>P<b>"},
		{"a{};", "R<a||os>P<;>"},
		{"a(;{})b;c", "P<a(;{})b;>P<c>"},
		{"a(};b", "P<a(};b>"},
		{"a{b:c(;{d:e})f;g", "R<a|D<b|c(;{d:e})f;>P<g>|o>"},
		{"a{(}b", "R<a|P<(}b>|o>"},
		{"a{[;}]}b", "R<a|P<[;}]>|os>P<b>"},
		{" a /**/ { b : c ; } ", "R< a /**/ |D< b | c ;>P< >|os>P< >"},
		{"a{/**/ b /**/:c}", "R<a|D</**/ b /**/|c>|os>"},
		{"a{/**/}/**/", "R<a|P</**/>|os>P</**/>"},
		{"a{{{b}}}", "R<a|R<|R<|P<b>|os>|os>|os>"},
		{"@a b;@c{d:e}", "P<@a b;>R<@c|D<d|e>|os>"},
		{"a{b:c;;d}", "R<a|D<b|c;>P<;>P<d>|os>"},
	}
	for _, c := range cases {
		l := split(c.s)
		got := ctree.Parse(l)
		if show(got) != c.want {
			t.Errorf("Parse of %q: %s, want %s", c.s, show(got), c.want)
		}
		if back := ctree.Tokens(got); !slices.Equal(back, l) {
			t.Errorf("P2103: %q becomes %v", c.s, back)
		}
	}
}

func TestP2101Places(t *testing.T) {
	got := ctree.Parse(split("a{b:c;d{e}}"))
	want := []api.CNode{{Kind: api.NRule, Head: []api.CTok{{Kind: api.CIdent, Text: "a"}}, Open: true, Shut: true, At: 1, Last: 10, Kids: []api.CNode{
		{Kind: api.NDecl, Head: []api.CTok{{Kind: api.CIdent, Text: "b", From: 2}}, Tail: []api.CTok{{Kind: api.CIdent, Text: "c", From: 4}}, At: 3, Semi: true, Last: 5},
		{Kind: api.NRule, Head: []api.CTok{{Kind: api.CIdent, Text: "d", From: 6}}, Open: true, Shut: true, At: 7, Last: 9, Kids: []api.CNode{
			{Kind: api.NPlain, Head: []api.CTok{{Kind: api.CIdent, Text: "e", From: 8}}},
		}},
	}}}
	if !reflect.DeepEqual(got, want) {
		t.Errorf("Parse: %+v", got)
	}
	got = ctree.Parse(split(" {b:c"))
	if n := got[0]; n.At != 1 || n.Last != 0 || n.Kids[0].At != 3 || n.Kids[0].Last != 0 {
		t.Errorf("Parse: %+v", got)
	}
}

func TestP2102Tokens(t *testing.T) {
	a, b := api.CTok{Kind: api.CIdent, Text: "a", From: 7}, api.CTok{Kind: 99, Flag: true}
	head, tail, kids := []api.CTok{a}, []api.CTok{b}, []api.CNode{{Kind: api.NPlain, Head: []api.CTok{a, b}}}
	colon, open := api.CTok{Kind: api.CColon, From: 1}, api.CTok{Kind: api.COpen, From: 1}
	shut, semi := api.CTok{Kind: api.CClose, From: 2}, api.CTok{Kind: api.CSemi, From: 2}
	cases := []struct {
		n    api.CNode
		want []api.CTok
	}{
		{api.CNode{}, nil},
		{api.CNode{Kind: api.NPlain, Head: head, Tail: tail, Kids: kids, Open: true, Shut: true, At: 1, Last: 2}, head},
		{api.CNode{Kind: api.NPlain, Head: head, Semi: true, Last: 2}, []api.CTok{a, semi}},
		{api.CNode{Kind: 9, Head: head, Tail: tail, Kids: kids, Open: true, Shut: true, Semi: true, Last: 2}, []api.CTok{a, semi}},
		{api.CNode{Kind: api.NDecl, Head: head, Tail: tail, Kids: kids, Open: true, Shut: true, At: 1, Last: 2}, []api.CTok{a, colon, b}},
		{api.CNode{Kind: api.NDecl, Semi: true, At: 1, Last: 2}, []api.CTok{colon, semi}},
		{api.CNode{Kind: api.NRule, Head: head, Tail: tail, Kids: kids, Open: true, Shut: true, Semi: true, At: 1, Last: 2}, []api.CTok{a, open, a, b, shut, semi}},
		{api.CNode{Kind: api.NRule, Head: head, Kids: kids, At: 1, Last: 2}, []api.CTok{a, a, b}},
		{api.CNode{Kind: api.NRule, Open: true, At: 1}, []api.CTok{open}},
	}
	for _, c := range cases {
		got := ctree.Tokens([]api.CNode{c.n, c.n})
		if !slices.Equal(got, append(slices.Clone(c.want), c.want...)) {
			t.Errorf("Tokens of %+v: %+v", c.n, got)
		}
	}
	if len(ctree.Tokens(nil)) != 0 {
		t.Error("Tokens of no nodes")
	}
}

func TestP2103Any(t *testing.T) {
	r := rand.New(rand.NewSource(21))
	pieces := strings.Split("a|b|:|;|{|}|(|)|[|]|f(| |/**/|a:|{b:|'", "|")
	for range 30000 {
		s := ""
		for range r.Intn(14) {
			s += pieces[r.Intn(len(pieces))]
		}
		l := split(s)
		was := slices.Clone(l)
		if got := ctree.Tokens(ctree.Parse(l)); !slices.Equal(got, was) || !slices.Equal(l, was) {
			t.Fatalf("%q becomes %v", s, got)
		}
	}
}

func TestP2103Deep(t *testing.T) {
	s := strings.Repeat("{a:b;", 100000)
	for _, s := range []string{s, s + strings.Repeat("}", 100000)} {
		l := split(s)
		if !slices.Equal(ctree.Tokens(ctree.Parse(l)), l) {
			t.Error("a deep style sheet")
		}
	}
}

func TestP2103Memory(t *testing.T) {
	l := split("a b{c:d e;f g}h")
	nodes := ctree.Parse(l)
	for i := range l {
		l[i] = api.CTok{}
	}
	nodes[0].Head = append(nodes[0].Head[:1], api.CTok{})
	nodes[0].Kids[0].Tail = append(nodes[0].Kids[0].Tail, api.CTok{})
	if show(nodes[1:]) != "P<h>" || show(nodes[0].Kids[1:]) != "P<f g>" || texts(nodes[0].Kids[0].Head) != "c" {
		t.Errorf("nodes share memory: %s", show(nodes))
	}
	out := ctree.Tokens(nodes)
	out[0].Text = "z"
	if nodes[0].Head[0].Text != "a" {
		t.Error("tokens share memory")
	}
}
