package jdoc_test

import (
	"reflect"
	"slices"
	"strings"
	"testing"

	"abridger/api"
	"abridger/doc"
	"abridger/jdoc"
	"abridger/jparse"
	"abridger/render"
)

func parse(t *testing.T, s string) api.Value {
	t.Helper()
	v, fault := jparse.Parse([]byte(s), api.MaxDepth)
	if fault != (api.Fault{}) {
		t.Errorf("Parse(%q): %v", s, fault)
	}
	return v
}

func TestP1201Doc(t *testing.T) {
	soft, space := api.Doc{Kind: api.DSoft}, api.Doc{Kind: api.DSpace}
	cases := []struct {
		s    string
		want api.Doc
	}{
		{" 1.0", doc.Text("1", 1)},
		{`"\u0061"`, doc.Text(`"a"`, 0)},
		{"null", doc.Text("null", 0)},
		{"[ ]", doc.Cat(api.DCat, doc.Text("[", 0), doc.Text("]", 2))},
		{" {}", doc.Cat(api.DCat, doc.Text("{", 1), doc.Text("}", 2))},
		{"[true]", doc.Cat(api.DGroup, doc.Text("[", 0), doc.Cat(api.DNest, soft, doc.Text("true", 1)), soft, doc.Text("]", 5))},
		{"[1,[]]", doc.Cat(api.DGroup, doc.Text("[", 0),
			doc.Cat(api.DNest, soft, doc.Text("1", 1), doc.Text(",", 2), space, doc.Cat(api.DCat, doc.Text("[", 3), doc.Text("]", 4))),
			soft, doc.Text("]", 5))},
		{`{"a":1, "b" :2}`, doc.Cat(api.DGroup, doc.Text("{", 0),
			doc.Cat(api.DNest, soft,
				doc.Cat(api.DCat, doc.Text(`"a"`, 1), doc.Text(":", 4), doc.Text(" ", -1), doc.Text("1", 5)),
				doc.Text(",", 6), space,
				doc.Cat(api.DCat, doc.Text(`"b"`, 8), doc.Text(":", 12), doc.Text(" ", -1), doc.Text("2", 13))),
			soft, doc.Text("}", 14))},
	}
	for _, c := range cases {
		if got := jdoc.Doc(parse(t, c.s)); !reflect.DeepEqual(got, c.want) {
			t.Errorf("Doc of %s: %v, want %v", c.s, got, c.want)
		}
	}
}

func TestP1201Wrong(t *testing.T) {
	wrongs := []api.Value{
		{}, {Kind: api.VNull, From: -1}, {Kind: api.VArray, Items: []api.Value{{}}},
		{Kind: api.VTrue, To: 1}, {Kind: api.VText, From: 2, To: 2}, {Kind: api.VArray, To: 9, Items: []api.Value{{Kind: api.VNumber, To: 1}}},
	}
	for _, v := range wrongs {
		if got := jdoc.Doc(v); !reflect.DeepEqual(got, api.Doc{Kind: api.DCat}) {
			t.Errorf("Doc of %v: %v", v, got)
		}
		if got := jdoc.Pieces(v, 80, 2); len(got) != 0 {
			t.Errorf("Pieces of %v: %v", v, got)
		}
	}
}

func TestP1201Pieces(t *testing.T) {
	s := `{"a":[1,2,{}],"b":[]}`
	cases := []struct {
		width, indent int
		want          string
	}{
		{80, 2, `{"a": [1, 2, {}], "b": []}`},
		{26, 2, `{"a": [1, 2, {}], "b": []}`},
		{25, 2, "{\n  \"a\": [1, 2, {}],\n  \"b\": []\n}"},
		{18, 2, "{\n  \"a\": [1, 2, {}],\n  \"b\": []\n}"},
		{17, 2, "{\n  \"a\": [\n    1,\n    2,\n    {}\n  ],\n  \"b\": []\n}"},
		{1, 0, "{\n\"a\": [\n1,\n2,\n{}\n],\n\"b\": []\n}"},
	}
	for _, c := range cases {
		got := jdoc.Pieces(parse(t, s), c.width, c.indent)
		if render.Text(got) != c.want+"\n" || got[len(got)-1] != (api.Piece{Text: "\n", From: -1}) {
			t.Errorf("width %d: %q", c.width, render.Text(got))
		}
	}
	if got := jdoc.Pieces(parse(t, " 1"), 80, 2); !slices.Equal(got, []api.Piece{{Text: "1", From: 1}, {Text: "\n", From: -1}}) {
		t.Errorf("Pieces: %v", got)
	}
}

func TestP1202Consequences(t *testing.T) {
	texts := []string{
		`{"a":[1,-2.50e3,0.000001,{"\ud800":"\ud83d\ude00\u0001"}],"":{},"x":[[[]]]}`, `"a\nb"`, "[1,2,3,4,5,6,7,8,9,10,11,12]",
		strings.Repeat(`{"":[`, 30) + strings.Repeat("]}", 30), strings.Repeat("[", 60) + strings.Repeat("]", 60),
		strings.Repeat(`{"a":`, 60) + "1" + strings.Repeat("}", 60),
	}
	for _, s := range texts {
		for _, width := range []int{1, 10, 40, 1000} {
			v := parse(t, s)
			out := render.Text(jdoc.Pieces(v, width, 3))
			again := parse(t, out)
			if !jparse.Same(v, again) {
				t.Errorf("%s becomes %s", s, out)
			}
			if got := render.Text(jdoc.Pieces(again, width, 3)); got != out {
				t.Errorf("%s becomes %s", out, got)
			}
			if !reflect.DeepEqual(v, parse(t, s)) {
				t.Errorf("%s is changed", s)
			}
		}
	}
}
