package smap_test

import (
	"slices"
	"strings"
	"testing"

	"abridger/api"
	"abridger/smap"
)

func seg(line, col, srcLine, srcCol int) api.Segment {
	return api.Segment{Line: line, Col: col, SrcLine: srcLine, SrcCol: srcCol}
}

func TestP2401Mappings(t *testing.T) {
	cases := []struct {
		l    []api.Segment
		want string
	}{
		{nil, ""},
		{[]api.Segment{seg(0, 0, 0, 0)}, "AAAA"},
		{[]api.Segment{seg(0, 0, 0, 0), seg(0, 1, 0, 2)}, "AAAA,CAAE"},
		{[]api.Segment{seg(0, 5, 3, 7), seg(0, 6, 2, 0)}, "KAGO,CADP"},
		{[]api.Segment{seg(1, 5, 0, 0)}, ";KAAA"},
		{[]api.Segment{seg(0, 5, 1, 1), seg(3, 5, 2, 0), seg(3, 21, 2, 0)}, "KACC;;;KACD,gBAAA"},
		{[]api.Segment{seg(0, 1<<30, 1<<30, 1<<30)}, big(1<<30) + "A" + big(1<<30) + big(1<<30)},
		{[]api.Segment{seg(0, 0, 1<<30, 1<<30), seg(0, 1, 0, 0)}, "AA" + big(1<<30) + big(1<<30) + ",CA" + big(-1<<30) + big(-1<<30)},
		{[]api.Segment{seg(100000, 0, 0, 0)}, strings.Repeat(";", 100000) + "AAAA"},
	}
	for _, c := range cases {
		if got, ok := smap.Mappings(c.l); got != c.want || !ok {
			t.Errorf("Mappings of %v: %.60q, %v, want %.60q", c.l, got, ok, c.want)
		}
	}
}

// big writes a number as chapter 3 tells.
func big(n int) string {
	const letters = "ABCDEFGHIJKLMNOPQRSTUVWXYZabcdefghijklmnopqrstuvwxyz0123456789+/"
	x := 2 * n
	if n < 0 {
		x = 2*-n + 1
	}
	out := ""
	for ; x >= 32; x /= 32 {
		out += string(letters[32+x%32])
	}
	return out + string(letters[x])
}

func TestP2401Wrong(t *testing.T) {
	wrongs := [][]api.Segment{
		{seg(-1, 0, 0, 0)}, {seg(0, -1, 0, 0)}, {seg(0, 0, -1, 0)}, {seg(0, 0, 0, -1)},
		{seg(100001, 0, 0, 0)}, {seg(0, 1<<30+1, 0, 0)}, {seg(0, 0, 1<<30+1, 0)}, {seg(0, 0, 0, 1<<30+1)},
		{seg(1<<62, 1<<62, 1<<62, 1<<62)},
		{seg(0, 0, 0, 0), seg(0, 0, 0, 0)}, {seg(0, 1, 0, 0), seg(0, 0, 5, 5)}, {seg(1, 0, 0, 0), seg(0, 5, 0, 0)},
		{seg(0, 0, 0, 0), seg(0, 1, 0, 0), seg(0, 1, 0, 1)}, {seg(0, 0, 0, 0), seg(0, 1, 0, -1)},
	}
	for _, l := range wrongs {
		if got, ok := smap.Mappings(l); got != "" || ok {
			t.Errorf("Mappings of %v: %q, %v", l, got, ok)
		}
		if got, ok := smap.Write("a", l); got != "" || ok {
			t.Errorf("Write of %v: %q, %v", l, got, ok)
		}
	}
}

func TestP2402Write(t *testing.T) {
	cases := []struct{ name, want string }{
		{"", `""`},
		{"a.css", `"a.css"`},
		{"\"\\\n\x01é€😀", `"\"\\\n\u0001é€😀"`},
		{"a\xffb\xed\xa0\x80", "\"a\ufffdb\ufffd\ufffd\ufffd\""},
	}
	l := []api.Segment{seg(0, 0, 0, 0), seg(1, 2, 3, 4)}
	was := slices.Clone(l)
	for _, c := range cases {
		want := `{"version":3,"sources":[` + c.want + `],"names":[],"mappings":"AAAA;EAGI"}`
		if got, ok := smap.Write(c.name, l); got != want || !ok {
			t.Errorf("Write(%q): %s, %v", c.name, got, ok)
		}
	}
	if got, ok := smap.Write("x", nil); got != `{"version":3,"sources":["x"],"names":[],"mappings":""}` || !ok {
		t.Errorf("Write of no segments: %s, %v", got, ok)
	}
	if !slices.Equal(l, was) {
		t.Error("Write changes its argument")
	}
}
