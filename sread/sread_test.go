package sread_test

import (
	"math/rand"
	"slices"
	"strings"
	"testing"

	"abridger/api"
	"abridger/smap"
	"abridger/sread"
)

func seg(line, col, srcLine, srcCol int) api.Segment {
	return api.Segment{Line: line, Col: col, SrcLine: srcLine, SrcCol: srcCol}
}

func TestP2501Mappings(t *testing.T) {
	cases := []struct {
		s    string
		want []api.Segment
	}{
		{"", nil},
		{"AAAA", []api.Segment{seg(0, 0, 0, 0)}},
		{"KAGO,CADP", []api.Segment{seg(0, 5, 3, 7), seg(0, 6, 2, 0)}},
		{"KACC;;;KACD,gBAAA", []api.Segment{seg(0, 5, 1, 1), seg(3, 5, 2, 0), seg(3, 21, 2, 0)}},
		{"ggggggCAggggggCggggggC", []api.Segment{seg(0, 1<<30, 1<<30, 1<<30)}},
		{strings.Repeat(";", 100000) + "AAAA", []api.Segment{seg(100000, 0, 0, 0)}},
	}
	for _, c := range cases {
		if got, ok := sread.Mappings(c.s); !slices.Equal(got, c.want) || !ok {
			t.Errorf("Mappings(%.40q) = %v, %v", c.s, got, ok)
		}
	}
	wrongs := []string{
		";", "AAAA;", ",", "AAAA,", ",AAAA", "A", "AAA", "AAAAA", "AAAAAA", "ACAA", "AAAA ", "AA!A", "AAAg", "AAAgA", "AAAB",
		"DAAA", "AADA", "AAAD", "AAAA,AAAA", "CAAA,DAAA", "AAAA,,CAAA", "AAAC,CAAF", "ggggggggCAAA", "igggggCAAA", "AAAigggggC", "AAggggggggCA",
		"CAAA,gggggggCAAA", strings.Repeat(";", 100001) + "AAAA", "aaaa;bbbb", "é",
	}
	for _, s := range wrongs {
		if got, ok := sread.Mappings(s); len(got) != 0 || ok {
			t.Errorf("Mappings(%.40q) = %v, %v", s, got, ok)
		}
	}
}

func TestP2501OfWritten(t *testing.T) {
	r := rand.New(rand.NewSource(25))
	for range 500 {
		var l []api.Segment
		line, col := 0, 0
		for range r.Intn(9) {
			if r.Intn(2) == 0 {
				line, col = line+1+r.Intn(3), 0
			}
			l = append(l, seg(line, col+r.Intn(50), r.Intn(1<<r.Intn(31)), r.Intn(1<<30+1)))
			col = l[len(l)-1].Col + 1
		}
		s, ok := smap.Mappings(l)
		if !ok {
			t.Fatalf("Mappings of %v", l)
		}
		if got, ok := sread.Mappings(s); !slices.Equal(got, l) || !ok {
			t.Fatalf("Mappings(%q) = %v, want %v", s, got, l)
		}
		whole, _ := smap.Write("a\U0001f600", l)
		if name, got, ok := sread.Read([]byte(whole)); len(whole) <= api.MaxBytes && (name != "a\U0001f600" || !slices.Equal(got, l) || !ok) {
			t.Fatalf("Read(%s) = %q, %v, %v", whole, name, got, ok)
		}
	}
}

func TestP2501Read(t *testing.T) {
	one := []api.Segment{seg(0, 0, 0, 0)}
	cases := []struct {
		s, name string
		want    []api.Segment
	}{
		{`{"version":3,"sources":["a.css"],"names":[],"mappings":"AAAA"}`, "a.css", one},
		{` { "mappings" : "" , "sources" : [ "" ] , "version" : 3 } `, "", nil},
		{`{"version":30e-1,"sources":["\ud83d\ude00\ud83dx"],"mappings":"\u0041AAA","x":{"version":1},"x":0}`, "😀\ufffdx", one},
		{`{"\u0076ersion":3,"sources":["é"],"mappings":"AAAA"}`, "é", one},
	}
	for _, c := range cases {
		if name, got, ok := sread.Read([]byte(c.s)); name != c.name || !slices.Equal(got, c.want) || !ok {
			t.Errorf("Read(%s) = %q, %v, %v", c.s, name, got, ok)
		}
	}
	wrongs := []string{
		"", "{}", "[]", "1", `"a"`, "null",
		`{"version":3,"sources":["a"],"mappings":"AAAA"`,
		`{"sources":["a"],"mappings":"AAAA"}`, `{"version":3,"mappings":"AAAA"}`, `{"version":3,"sources":["a"]}`,
		`{"version":4,"sources":["a"],"mappings":"AAAA"}`, `{"version":-3,"sources":["a"],"mappings":"AAAA"}`,
		`{"version":"3","sources":["a"],"mappings":"AAAA"}`, `{"version":3,"version":3,"sources":["a"],"mappings":"AAAA"}`,
		`{"version":3,"sources":[],"mappings":"AAAA"}`, `{"version":3,"sources":["a","b"],"mappings":"AAAA"}`,
		`{"version":3,"sources":[1],"mappings":"AAAA"}`, `{"version":3,"sources":"a","mappings":"AAAA"}`,
		`{"version":3,"sources":{"a":"b"},"mappings":"AAAA"}`, `{"version":3,"sources":["a"],"sources":["a"],"mappings":"AAAA"}`,
		`{"version":3,"sources":["a"],"mappings":";"}`, `{"version":3,"sources":["a"],"mappings":["AAAA"]}`,
		`{"version":3,"sources":["a"],"mappings":"AAAA","mappings":"AAAA"}`, `{"version":3,"sources":["a"],"mappings":1}`,
		`["version",3,"sources",["a"],"mappings","AAAA"]`, `{"version":3,"sources":["a"],"mappings":"\ud800"}`, `[{"version":3,"sources":["a"],"mappings":"AAAA"}]`,
	}
	for _, s := range wrongs {
		if name, got, ok := sread.Read([]byte(s)); name != "" || len(got) != 0 || ok {
			t.Errorf("Read(%s) = %q, %v, %v", s, name, got, ok)
		}
	}
}

func TestP2502Arguments(t *testing.T) {
	s := `{"version":3,"sources":["a"],"mappings":"AAAA"}`
	b := []byte(s)
	_, first, _ := sread.Read(b)
	first[0].Line = 7
	_, second, _ := sread.Read(b)
	if second[0].Line != 0 || string(b) != s {
		t.Error("Read changes its argument or shares memory")
	}
}
