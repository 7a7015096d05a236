package render_test

import (
	"math/rand"
	"slices"
	"strings"
	"testing"

	"abridger/api"
	"abridger/doc"
	"abridger/render"
)

var (
	space = api.Doc{Kind: api.DSpace}
	soft  = api.Doc{Kind: api.DSoft}
	hard  = api.Doc{Kind: api.DHard}
)

func word(s string) api.Doc            { return doc.Text(s, len(s)) }
func cat(kids ...api.Doc) api.Doc      { return doc.Cat(api.DCat, kids...) }
func group(kids ...api.Doc) api.Doc    { return doc.Cat(api.DGroup, kids...) }
func nest(kids ...api.Doc) api.Doc     { return doc.Cat(api.DNest, kids...) }
func text(d api.Doc, w, i int) string  { return render.Text(render.Pieces(d, w, i)) }
func broken(level, indent int) api.Doc { return doc.Text("\n"+strings.Repeat(" ", level*indent), -1) }

func TestP1101Pieces(t *testing.T) {
	d := cat(word("ab"), word(""), nest(hard, word("c"), nest(space, soft)), group(word("d"), space, soft, word("e")))
	want := []api.Piece{
		{Text: "ab", From: 2}, {Text: "\n   ", From: -1}, {Text: "c", From: 1}, {Text: "\n      ", From: -1}, {Text: "\n      ", From: -1},
		{Text: "d", From: 1}, {Text: " ", From: -1}, {Text: "e", From: 1},
	}
	if got := render.Pieces(d, 80, 3); !slices.Equal(got, want) {
		t.Errorf("Pieces: %v", got)
	}
}

func TestP1101Limits(t *testing.T) {
	long := word(strings.Repeat("x", api.MaxWidth-2))
	g := group(word("a"), space, word("b"))
	cases := []struct {
		d             api.Doc
		width, indent int
		want          string
	}{
		{g, 3, 2, "a b"},
		{g, 2, 2, "a\nb"},
		{g, 0, 2, "a\nb"},
		{g, -5, 2, "a\nb"},
		{group(word("a"), soft), 0, 2, "a"}, // the width is 1
		{nest(hard, word("a")), 9, -1, "\na"},
		{nest(hard, word("a")), 9, 99, "\n" + strings.Repeat(" ", api.MaxIndent) + "a"},
		{group(long, space, word("b")), 99999, 2, long.Text + " b"},
		{group(long, space, word("bc")), 99999, 2, long.Text + "\nbc"},
		{group(word("é"), space, word("\xff")), 3, 2, "é \xff"},
	}
	for _, c := range cases {
		if got := text(c.d, c.width, c.indent); got != c.want {
			t.Errorf("%v, %d, %d: %q", c.d, c.width, c.indent, got)
		}
	}
}

func TestP1101Wrong(t *testing.T) {
	deep := cat()
	for range 200 {
		deep = api.Doc{Kind: api.DCat, Kids: []api.Doc{deep}}
	}
	for _, d := range []api.Doc{{}, {Kind: 9}, cat(word("a"), api.Doc{}), deep} {
		if got := render.Pieces(d, 80, 2); len(got) != 0 {
			t.Errorf("Pieces of %v: %v", d, got)
		}
	}
}

func TestP1102Fits(t *testing.T) {
	g := group(word("aa"), space, word("bb"))
	cases := []struct {
		d    api.Doc
		want string
	}{
		{cat(g, word("cc")), "aa bbcc"}, // what follows counts
		{cat(g, word("ccc")), "aa\nbbccc"},
		{cat(g, word("cc"), space, word("ddd")), "aa bbcc\nddd"},         // up to the next break
		{cat(g, word("ccc"), space, word("d")), "aa\nbbccc\nd"},          // which is not needed to fit
		{cat(g, group(word("cc"), soft, word("dddd"))), "aa bbcc\ndddd"}, // a group's break counts
		{cat(g, group(word("ccc"), soft, word("d"))), "aa\nbbcccd"},      // though it might be flat
		{cat(word("xxx"), g), "xxxaa\nbb"},                               // the column counts
		{cat(word("xx"), g), "xxaa bb"},                                  // so it does
		{group(word("a"), hard, word("b")), "a\nb"},                      // a DHard never fits
		{group(nest(cat(soft, hard))), "\n\n"},                           // nor one deep down
	}
	for _, c := range cases {
		if got := text(c.d, 7, 0); got != c.want {
			t.Errorf("%v: %q, want %q", c.d, got, c.want)
		}
	}
	// A group within a flat one is flat; after a broken one, the next has its own mode.
	d := group(g, space, group(word("d"), space, word("e")))
	for width, want := range map[int]string{9: "aa bb d e", 8: "aa bb\nd e", 5: "aa bb\nd e", 4: "aa\nbb\nd e", 2: "aa\nbb\nd\ne"} {
		if got := text(d, width, 0); got != want {
			t.Errorf("width %d: %q", width, got)
		}
	}
}

func TestP1103TextAndStarts(t *testing.T) {
	l := []api.Piece{{Text: "ab", From: 1}, {}, {Text: "é", From: -1}, {Text: "c"}}
	if got := render.Text(l); got != "abéc" {
		t.Errorf("Text: %q", got)
	}
	if got := render.Starts(l); !slices.Equal(got, []int{0, 2, 2, 4}) {
		t.Errorf("Starts: %v", got)
	}
	if render.Text(nil) != "" || len(render.Starts(nil)) != 0 {
		t.Error("of no pieces")
	}
}

// plain lays a document out step by step, as chapter 11 tells.
type plain struct {
	d     api.Doc
	level int
	flat  bool
}

func slowly(d api.Doc, width, indent int) []api.Piece {
	var out []api.Piece
	column := 0
	put := func(s string, from int) {
		if s != "" {
			out = append(out, api.Piece{Text: s, From: from})
		}
		column += doc.Wide(s)
	}
	for list := []plain{{d, 0, false}}; len(list) > 0; {
		e := list[0]
		list = list[1:]
		switch e.d.Kind {
		case api.DText:
			put(e.d.Text, e.d.From)
			continue
		case api.DSpace, api.DSoft, api.DHard:
			if !e.flat {
				out = append(out, api.Piece{Text: broken(e.level, indent).Text, From: -1})
				column = e.level * indent
			} else if e.d.Kind == api.DSpace {
				put(" ", -1)
			}
			continue
		case api.DNest:
			e.level++
		case api.DGroup:
			if s, ok := doc.Flat(e.d); ok && !e.flat {
				after, _ := rest(list)
				e.flat = column+doc.Wide(s)+after <= width
			}
		}
		var kids []plain
		for _, k := range e.d.Kids {
			kids = append(kids, plain{k, e.level, e.flat})
		}
		list = append(kids, list...)
	}
	return out
}

// rest returns the width of a list up to the next possible line break.
func rest(list []plain) (int, bool) {
	sum := 0
	for _, e := range list {
		switch {
		case e.flat || e.d.Kind == api.DText:
			s, _ := doc.Flat(e.d)
			sum += doc.Wide(s)
		case len(e.d.Kids) == 0 && e.d.Kind < api.DCat:
			return sum, true
		default:
			var kids []plain
			for _, k := range e.d.Kids {
				kids = append(kids, plain{k, 0, false})
			}
			n, stop := rest(kids)
			if sum += n; stop {
				return sum, true
			}
		}
	}
	return sum, false
}

func anyDoc(r *rand.Rand, depth int) api.Doc {
	kind := 1 + r.Intn(7)
	if depth == 0 || kind < api.DCat {
		switch kind {
		case api.DSpace, api.DSoft:
			return api.Doc{Kind: kind}
		case api.DHard:
			if r.Intn(4) == 0 {
				return hard
			}
		}
		return word(strings.Repeat("x", r.Intn(5)))
	}
	var kids []api.Doc
	for range r.Intn(5) {
		kids = append(kids, anyDoc(r, depth-1))
	}
	return doc.Cat(kind, kids...)
}

func TestP1102Slowly(t *testing.T) {
	r := rand.New(rand.NewSource(11))
	for range 4000 {
		d := anyDoc(r, 6)
		width, indent := 1+r.Intn(30), r.Intn(4)
		if got, want := render.Pieces(d, width, indent), slowly(d, width, indent); !slices.Equal(got, want) {
			t.Fatalf("%v, %d, %d: %v, want %v", d, width, indent, got, want)
		}
	}
}

func TestP1101Long(t *testing.T) {
	var kids []api.Doc
	for range 50000 {
		kids = append(kids, group(word(""), group(word(""))))
	}
	if got := render.Pieces(cat(kids...), 80, 2); len(got) != 0 {
		t.Error("pieces of empty texts")
	}
}
