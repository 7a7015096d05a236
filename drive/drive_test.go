package drive_test

import (
	"bytes"
	"slices"
	"strings"
	"testing"

	"abridger/api"
	"abridger/cdoc"
	"abridger/cmin"
	"abridger/drive"
	"abridger/jdoc"
	"abridger/jmin"
	"abridger/jparse"
	"abridger/pieces"
	"abridger/render"
	"abridger/smap"
	"abridger/sread"
)

func options(lang, way int) api.Options {
	return api.Options{Lang: lang, Way: way, Width: 20, Indent: 3, Depth: api.MaxDepth}
}

func TestP2601Right(t *testing.T) {
	good := options(api.JSON, api.Min)
	rights := []func(o *api.Options){
		func(o *api.Options) {}, func(o *api.Options) { o.Lang = api.CSS }, func(o *api.Options) { o.Way = api.Pretty },
		func(o *api.Options) { o.Width = 1 }, func(o *api.Options) { o.Width = api.MaxWidth }, func(o *api.Options) { o.Indent = 0 },
		func(o *api.Options) { o.Indent = api.MaxIndent }, func(o *api.Options) { o.Depth = 0 }, func(o *api.Options) { o.Depth = api.MaxDepth },
	}
	for i, change := range rights {
		o := good
		if change(&o); !drive.Right(o) {
			t.Errorf("%d: Right(%+v) is false", i, o)
		}
	}
	wrongs := []func(o *api.Options){
		func(o *api.Options) { *o = api.Options{} }, func(o *api.Options) { o.Lang = 0 }, func(o *api.Options) { o.Lang = 3 },
		func(o *api.Options) { o.Way = 0 }, func(o *api.Options) { o.Way = 3 }, func(o *api.Options) { o.Way = -1 },
		func(o *api.Options) { o.Width = 0 }, func(o *api.Options) { o.Width = api.MaxWidth + 1 }, func(o *api.Options) { o.Indent = -1 },
		func(o *api.Options) { o.Indent = api.MaxIndent + 1 }, func(o *api.Options) { o.Depth = -1 }, func(o *api.Options) { o.Depth = api.MaxDepth + 1 },
	}
	for i, change := range wrongs {
		o := good
		if change(&o); drive.Right(o) {
			t.Errorf("%d: Right(%+v) is true", i, o)
		}
		if l, fault := drive.Pieces([]byte("\xff"), o); len(l) != 0 || fault != (api.Fault{Err: api.ErrArg}) {
			t.Errorf("%d: Pieces: %v, %v", i, l, fault)
		}
		if text, m, fault := drive.Run(nil, "a", o); len(text) != 0 || m != "" || fault != (api.Fault{Err: api.ErrArg}) {
			t.Errorf("%d: Run: %q, %q, %v", i, text, m, fault)
		}
	}
}

func TestP2601Faults(t *testing.T) {
	long := strings.Repeat("{", api.MaxBytes+1)
	cases := []struct {
		s           string
		lang, depth int
		err         api.Errno
		at          int
	}{
		{long, api.JSON, 60, api.ErrLong, api.MaxBytes},
		{long, api.CSS, 60, api.ErrLong, api.MaxBytes},
		{long[:api.MaxBytes], api.JSON, 60, api.ErrSyntax, 1},
		{strings.Repeat("a", api.MaxBytes), api.CSS, 60, api.OK, 0},
		{"", api.JSON, 60, api.ErrSyntax, 0},
		{"[1,]", api.JSON, 60, api.ErrSyntax, 3},
		{"\"\xff\"", api.JSON, 60, api.ErrUtf, 1},
		{"[[]]", api.JSON, 1, api.ErrDeep, 1},
		{"a{ b}", api.CSS, 0, api.ErrDeep, 3},
		{"é(/**/ [ {b", api.CSS, 2, api.ErrDeep, 11},
		{"f(]", api.CSS, 0, api.ErrDeep, 2}, // it closes nothing
		{"{{}a", api.CSS, 0, api.ErrDeep, 1},
		{"{{}a", api.CSS, 1, api.OK, 0},
		{"{{a", api.CSS, 1, api.ErrDeep, 2},
		{"[}]", api.CSS, 0, api.ErrDeep, 1},
		{strings.Repeat("(", 62), api.CSS, 60, api.ErrDeep, 61},
		{"{}", api.CSS, 0, api.OK, 0},
		{"{ /*!x*/ }a", api.CSS, 0, api.OK, 0},
		{"((()))", api.CSS, 2, api.OK, 0},
		{strings.Repeat("(", 61), api.CSS, 60, api.OK, 0},
		{"url(((({", api.CSS, 0, api.OK, 0},
		{"\xff", api.CSS, 0, api.OK, 0},
		{"1", api.JSON, 0, api.OK, 0},
	}
	for _, c := range cases {
		for _, way := range []int{api.Min, api.Pretty} {
			o := options(c.lang, way)
			o.Depth = c.depth
			want := api.Fault{Err: c.err, At: c.at}
			l, fault := drive.Pieces([]byte(c.s), o)
			if fault != want || c.err != api.OK && len(l) != 0 {
				t.Errorf("Pieces(%.20q, %+v): %v", c.s, o, fault)
			}
			text, m, fault := drive.Run([]byte(c.s), "a", o)
			if fault != want || c.err != api.OK && (len(text) != 0 || m != "") {
				t.Errorf("Run(%.20q, %+v): %v", c.s, o, fault)
			}
		}
	}
}

const (
	jsonText = "{\"a\" : [1.0, \"\\u0062\"],\r\n \"c\": {}}"
	cssText  = "@media x { a > b { color : red ; c: d } }\r\n/*! y */ é{}"
)

func TestP2601Pieces(t *testing.T) {
	v, _ := jparse.Parse([]byte(jsonText), api.MaxDepth)
	l := cmin.Value([]byte(cssText))
	cases := []struct {
		s         string
		lang, way int
		want      []api.Piece
	}{
		{jsonText, api.JSON, api.Min, jmin.Pieces(v)},
		{jsonText, api.JSON, api.Pretty, jdoc.Pieces(v, 20, 3)},
		{cssText, api.CSS, api.Min, cmin.Pieces(l)},
		{cssText, api.CSS, api.Pretty, cdoc.Pieces(l, 20, 3)},
	}
	for _, c := range cases {
		b := []byte(c.s)
		o := options(c.lang, c.way)
		got, fault := drive.Pieces(b, o)
		if !slices.Equal(got, c.want) || fault != (api.Fault{}) || len(got) == 0 {
			t.Errorf("Pieces(%q): %v, %v", c.s, got, fault)
		}
		wantMap, _ := smap.Write("n", pieces.Segments(c.want, b))
		for range 20 {
			text, m, fault := drive.Run(b, "n", o)
			if string(text) != render.Text(c.want) || m != wantMap || fault != (api.Fault{}) {
				t.Errorf("Run(%q): %q, %q, %v", c.s, text, m, fault)
			}
		}
		if string(b) != c.s {
			t.Errorf("%q is changed to %q", c.s, b)
		}
	}
}

func TestP2601Map(t *testing.T) {
	text, m, _ := drive.Run([]byte(cssText), "x.css", options(api.CSS, api.Min))
	name, l, ok := sread.Read([]byte(m))
	if name != "x.css" || !ok || string(text) != "@media x{a > b{color:red;c:d}}/*! y */é{}" {
		t.Errorf("%q, %q", text, m)
	}
	last := api.Segment{Line: 0, Col: 40, SrcLine: 1, SrcCol: 11}
	if len(l) == 0 || l[len(l)-1] != last {
		t.Errorf("segments: %v", l)
	}
	text, m, fault := drive.Run(nil, "", options(api.CSS, api.Pretty))
	if len(text) != 0 || m != `{"version":3,"sources":[""],"names":[],"mappings":""}` || fault != (api.Fault{}) {
		t.Errorf("Run of no bytes: %q, %q, %v", text, m, fault)
	}
}

func TestP2602Long(t *testing.T) {
	for _, s := range []string{"a{}", "a{b:c}", "color:red;", "/*!x*/", "a ", "[],", "('", "\"\n", "a,"} {
		b := bytes.Repeat([]byte(s), api.MaxBytes/len(s))
		for _, way := range []int{api.Min, api.Pretty} {
			o := options(api.CSS, way)
			_, m, fault := drive.Run(b, "", o)
			if (m == "") != (fault.Err != api.OK) {
				t.Errorf("a long input of %q: %v", s, fault)
			}
		}
	}
}
