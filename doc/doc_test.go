package doc_test

import (
	"reflect"
	"strings"
	"testing"

	"abridger/api"
	"abridger/doc"
)

var (
	space = api.Doc{Kind: api.DSpace}
	soft  = api.Doc{Kind: api.DSoft}
	hard  = api.Doc{Kind: api.DHard}
)

func nested(n int) api.Doc {
	d := doc.Text("x", 0)
	for i := range n {
		d = api.Doc{Kind: api.DCat + i%3, Kids: []api.Doc{d}}
	}
	return d
}

func TestP1001Right(t *testing.T) {
	rights := []api.Doc{
		doc.Text("", 0), doc.Text("a\n\xff", -1), {Kind: api.DText, Kids: []api.Doc{}}, space, soft, hard,
		{Kind: api.DCat}, {Kind: api.DGroup, Kids: []api.Doc{space, {Kind: api.DNest}}}, {Kind: api.DNest, Kids: []api.Doc{hard, hard}},
		nested(200),
	}
	for _, d := range rights {
		if !doc.Right(d) {
			t.Errorf("Right(%v) is false", d)
		}
	}
	kids := []api.Doc{space}
	wrongs := []api.Doc{
		{}, {Kind: -1}, {Kind: 8}, {Kind: api.DText, Kids: kids},
		{Kind: api.DSpace, Text: " "}, {Kind: api.DSoft, From: -1}, {Kind: api.DHard, Kids: kids},
		{Kind: api.DCat, Text: "a"}, {Kind: api.DGroup, From: 1}, {Kind: api.DNest, Kids: []api.Doc{space, {}}},
		nested(201), nested(100000),
		{Kind: api.DCat, Kids: []api.Doc{space, {Kind: api.DNest, Kids: []api.Doc{{Kind: 9}}}}},
	}
	for _, d := range wrongs {
		if doc.Right(d) {
			t.Errorf("Right(%v) is true", d)
		}
		if s, ok := doc.Flat(d); s != "" || ok {
			t.Errorf("Flat(%v) = %q, %v", d, s, ok)
		}
	}
}

func TestP1001Flat(t *testing.T) {
	cases := []struct {
		d    api.Doc
		want string
		ok   bool
	}{
		{doc.Text("a\nb", 5), "a\nb", true},
		{space, " ", true},
		{soft, "", true},
		{hard, "", false},
		{doc.Cat(api.DCat), "", true},
		{doc.Cat(api.DGroup, doc.Text("a", 0), space, doc.Cat(api.DNest, soft, doc.Text("b", 0))), "a b", true},
		{doc.Cat(api.DGroup, doc.Text("a", 0), doc.Cat(api.DNest, hard), doc.Text("b", 0)), "", false},
	}
	for _, c := range cases {
		if s, ok := doc.Flat(c.d); s != c.want || ok != c.ok {
			t.Errorf("Flat(%v) = %q, %v", c.d, s, ok)
		}
	}
}

func TestP1001Wide(t *testing.T) {
	for s, want := range map[string]int{"": 0, "abc": 3, "é€😀": 3, "\xff\xe2\x82x": 4, "a\nb": 3, "\x00": 1, "\ufffd": 1} {
		if got := doc.Wide(s); got != want {
			t.Errorf("Wide(%q) = %d", s, got)
		}
	}
}

func TestP1001TextAndCat(t *testing.T) {
	if got := doc.Text("a", -7); !reflect.DeepEqual(got, api.Doc{Kind: api.DText, Text: "a", From: -7}) {
		t.Errorf("Text: %v", got)
	}
	want := api.Doc{Kind: 42, Kids: []api.Doc{{Kind: 43, Text: "x", From: 3}, hard}}
	if got := doc.Cat(42, api.Doc{Kind: 43, Text: "x", From: 3}, hard); !reflect.DeepEqual(got, want) {
		t.Errorf("Cat: %v", got)
	}
	if got := doc.Cat(api.DCat); got.Kind != api.DCat || len(got.Kids) != 0 || !doc.Right(got) {
		t.Errorf("Cat without Kids: %v", got)
	}
}

func TestP1002Memory(t *testing.T) {
	inner := []api.Doc{space, soft}
	kids := make([]api.Doc, 1, 4)
	kids[0] = api.Doc{Kind: api.DNest, Kids: inner}
	d := doc.Cat(api.DCat, kids...)
	e := doc.Cat(api.DGroup, d, d)
	inner[0], kids[0] = hard, hard
	d.Kids[0].Kids[1] = hard
	e.Kids[0].Kids[0].Kids[0] = doc.Text("a", 0)
	want := doc.Cat(api.DNest, space, soft)
	if !reflect.DeepEqual(e.Kids[1].Kids[0], want) {
		t.Errorf("Cat shares memory: %v", e)
	}
}

func TestP1002Deep(t *testing.T) {
	d := doc.Cat(api.DCat, nested(1000000))
	if doc.Right(d) {
		t.Error("Right is true")
	}
}

func TestP1001FlatLong(t *testing.T) {
	var kids []api.Doc
	for range 20000 {
		kids = append(kids, doc.Text("ab", 0), soft)
	}
	if s, ok := doc.Flat(doc.Cat(api.DCat, kids...)); s != strings.Repeat("ab", 20000) || !ok {
		t.Error("Flat of a long document")
	}
}
