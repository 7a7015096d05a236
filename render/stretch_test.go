package render_test

import (
	"math/rand"
	"slices"
	"strings"
	"testing"

	"abridger/api"
	"abridger/doc"
	"abridger/render"
)

// torn is a list of the bytes of a text, one by one, with between ahead of
// each but the first.
func torn(s string, between ...api.Doc) []api.Doc {
	var kids []api.Doc
	for i := range len(s) {
		if i > 0 {
			kids = append(kids, between...)
		}
		kids = append(kids, word(s[i:i+1]))
	}
	return kids
}

// leastWidth returns the least width in which d is laid out as flat.
func leastWidth(d api.Doc, flat string) int {
	for width := 1; width <= 20; width++ {
		if text(d, width, 0) == flat {
			return width
		}
	}
	return -1
}

func TestP1102TornCodePoints(t *testing.T) {
	cases := []struct {
		d    api.Doc
		wide int
	}{
		{group(torn("é", soft)...), 1},
		{group(torn("€", soft)...), 1},
		{group(torn("😀", soft)...), 1},
		{group(torn("a€😀é", soft)...), 4},
		{group(word("a\xf0\x9f"), soft, word(""), word("\x98\x80b")), 3},
		{group(nest(word("\xe2"), cat(soft, word("\x82"))), word("\xac")), 1},
		// What lies between two texts counts, and parts them.
		{group(torn("é", space)...), 3},
		{group(word("\xe2"), space, word("\x82"), soft, word("\xac")), 4},
		// Bytes that are no code point together count one by one.
		{group(torn("\xe2\x82", soft)...), 2},
		{group(torn("\xc0\x80", soft)...), 2},
		{group(torn("\xed\xa0\x80", soft)...), 3},
		{group(torn("\xf4\x90\x80\x80", soft)...), 4},
		{group(torn("\xf0\x9f\x98\x80\x80", soft)...), 2},
		{group(torn("\xe2\xe2\x82\xac\xac", soft)...), 3},
	}
	for _, c := range cases {
		flat, ok := doc.Flat(c.d)
		if got := leastWidth(c.d, flat); !ok || got != c.wide {
			t.Errorf("%q is flat from the width %d on, want %d", flat, got, c.wide)
		}
	}
}

func TestP1102TornAround(t *testing.T) {
	euro := group(word("\xe2\x82"), soft, word("\xac"))
	cases := []struct {
		d    api.Doc
		flat string
		wide int
	}{
		{cat(euro, word("ab")), "€ab", 3},
		{cat(euro, space, word("ab")), "€\nab", 1},
		// What follows the group contributes text by text.
		{cat(euro, word("\xc3"), word("\xa9")), "€é", 3},
		{cat(euro, cat(word("\xf0\x9f"), word("\x98\x80"))), "€😀", 5},
		{cat(group(word("\xe2"), soft), word("\x82"), word("\xac")), "€", 3},
		// So does the column grow.
		{cat(word("\xe2"), group(word("\x82"), soft, word("\xac"))), "€", 3},
		{cat(word("\xe2"), word("\x82"), group(word("\xac"), soft)), "€", 3},
	}
	for _, c := range cases {
		if got := leastWidth(c.d, c.flat); got != c.wide {
			t.Errorf("%q is flat from the width %d on, want %d", c.flat, got, c.wide)
		}
	}
	// A group within a broken one has a width of its own.
	d := group(euro, soft, euro, word("a"))
	for width, want := range map[int]string{3: "€€a", 2: "€\n€a", 1: "€\n\xe2\x82\n\xaca"} {
		if got := text(d, width, 0); got != want {
			t.Errorf("width %d: %q, want %q", width, got, want)
		}
	}
}

// tornDoc makes documents whose texts often are parts of code points.
func tornDoc(r *rand.Rand, depth int) api.Doc {
	texts := []string{"", "\xe2", "\x82", "\xac", "\xe2\x82", "\x82\xac", "\xf0", "\x9f", "\x98", "\x80", "\xf0\x9f\x98", "a", "€"}
	kind := []int{api.DText, api.DText, api.DText, api.DSoft, api.DCat, api.DGroup, api.DNest}[r.Intn(7)]
	if kind == api.DSoft {
		if r.Intn(8) == 0 {
			return []api.Doc{space, hard}[r.Intn(2)]
		}
		return soft
	}
	if depth == 0 || kind == api.DText {
		if r.Intn(2) == 0 {
			between := []api.Doc{soft, word(""), cat(soft)}[r.Intn(3)]
			return cat(torn([]string{"€", "😀"}[r.Intn(2)], between)...)
		}
		return word(texts[r.Intn(len(texts))])
	}
	var kids []api.Doc
	for range r.Intn(5) {
		kids = append(kids, tornDoc(r, depth-1))
	}
	return doc.Cat(kind, kids...)
}

func TestP1102TornSlowly(t *testing.T) {
	r := rand.New(rand.NewSource(43))
	for range 6000 {
		d := tornDoc(r, 5)
		width, indent := 1+r.Intn(16), r.Intn(3)
		if got, want := render.Pieces(d, width, indent), slowly(d, width, indent); !slices.Equal(got, want) {
			t.Fatalf("%v, %d, %d: %v, want %v", d, width, indent, got, want)
		}
	}
}

func TestP1102TornLong(t *testing.T) {
	d := group(torn(strings.Repeat("€", 900), soft)...)
	for range 150 {
		d = group(d)
	}
	if got := text(d, 900, 0); got != strings.Repeat("€", 900) {
		t.Errorf("of 900 code points: %q", got)
	}
	if got := text(d, 899, 0); strings.Count(got, "\n") != 2699 {
		t.Errorf("in less: %q", got)
	}
}
