package jlex_test

import (
	"bytes"
	"slices"
	"strings"
	"testing"

	"abridger/api"
	"abridger/jlex"
)

// kinds splits s and returns the kinds and texts of its tokens.
func kinds(t *testing.T, s string) ([]int, []string) {
	t.Helper()
	toks, fault := jlex.Split([]byte(s))
	if fault != (api.Fault{}) {
		t.Errorf("Split(%q): %v", s, fault)
	}
	var kinds []int
	var texts []string
	for _, tok := range toks {
		kinds = append(kinds, tok.Kind)
		texts = append(texts, s[tok.From:tok.To])
	}
	return kinds, texts
}

func TestP601Tokens(t *testing.T) {
	s := " {}\t[] :,\r\ntrue false\nnull\"\"0 -0\"a\"[1]true{"
	ks, texts := kinds(t, s)
	wantKinds := []int{
		api.JOpen, api.JClose, api.JBegin, api.JEnd, api.JColon, api.JComma, api.JTrue, api.JFalse, api.JNull,
		api.JText, api.JNumber, api.JNumber, api.JText, api.JBegin, api.JNumber, api.JEnd, api.JTrue, api.JOpen,
	}
	wantTexts := []string{
		"{", "}", "[", "]", ":", ",", "true", "false", "null", `""`, "0", "-0", `"a"`, "[", "1", "]", "true", "{",
	}
	if !slices.Equal(ks, wantKinds) || !slices.Equal(texts, wantTexts) {
		t.Errorf("Split: %v, %q", ks, texts)
	}
	if toks, _ := jlex.Split([]byte("  [ 12")); !slices.Equal(toks, []api.JTok{{Kind: api.JBegin, From: 2, To: 3}, {Kind: api.JNumber, From: 4, To: 6}}) {
		t.Errorf("Split: %v", toks)
	}
}

func TestP601SingleTokens(t *testing.T) {
	cases := map[string]int{
		"0": api.JNumber, "-0": api.JNumber, "10": api.JNumber, "1.5": api.JNumber, "-1.50e+07": api.JNumber, "0E0": api.JNumber,
		"9e-1": api.JNumber, "0.0": api.JNumber, `"a b"`: api.JText, `"\"\\\/\b\f\n\r\t"`: api.JText, `"\u00aFé€😀"`: api.JText, `"\u09af\uAF90"`: api.JText,
		"\"\x7f\"": api.JText, "\"\ufffd\"": api.JText, `"\\"`: api.JText, "true": api.JTrue, "false": api.JFalse, "null": api.JNull,
	}
	for s, kind := range cases {
		for _, behind := range []string{"", " ", "\n", ",", "\"\"", "]"} {
			ks, texts := kinds(t, s+behind)
			if len(ks) == 0 || ks[0] != kind || texts[0] != s {
				t.Errorf("Split(%q): %v, %q", s+behind, ks, texts)
			}
		}
	}
}

func TestP601None(t *testing.T) {
	for _, s := range []string{"", " \t\r\n"} {
		if toks, fault := jlex.Split([]byte(s)); len(toks) != 0 || fault != (api.Fault{}) {
			t.Errorf("Split(%q): %v, %v", s, toks, fault)
		}
	}
}

func TestP602Faults(t *testing.T) {
	cases := []struct {
		s   string
		err api.Errno
		at  int
	}{
		{"x", api.ErrSyntax, 0},
		{"[1,a]", api.ErrSyntax, 3},
		{" 01", api.ErrSyntax, 1},
		{"1.", api.ErrSyntax, 0},
		{"1.x", api.ErrSyntax, 0},
		{".5", api.ErrSyntax, 0},
		{"+1", api.ErrSyntax, 0},
		{"-", api.ErrSyntax, 0},
		{"--1", api.ErrSyntax, 0},
		{"1e", api.ErrSyntax, 0},
		{"1e+", api.ErrSyntax, 0},
		{"1-1", api.ErrSyntax, 0},
		{"1_", api.ErrSyntax, 0},
		{"1Z", api.ErrSyntax, 0},
		{"1A", api.ErrSyntax, 0},
		{"1a", api.ErrSyntax, 0},
		{"1z", api.ErrSyntax, 0},
		{"1E", api.ErrSyntax, 0},
		{"1`", api.ErrSyntax, 1}, // it may follow a number, but begins no token
		{"1@", api.ErrSyntax, 1},
		{"truex", api.ErrSyntax, 0},
		{"true1", api.ErrSyntax, 0},
		{"tru", api.ErrSyntax, 0},
		{"null.", api.ErrSyntax, 0},
		{"True", api.ErrSyntax, 0},
		{"é", api.ErrSyntax, 0},
		{"1é", api.ErrSyntax, 1}, // é may follow a number, but begins no token
		{"1\f", api.ErrSyntax, 1},
		{`1"`, api.ErrSyntax, 1},
		{`["abc`, api.ErrSyntax, 1},
		{`"\`, api.ErrSyntax, 0},
		{`"\x"`, api.ErrSyntax, 0},
		{`"\u12g4"`, api.ErrSyntax, 0},
		{`"\u123"`, api.ErrSyntax, 0},
		{`"\u123`, api.ErrSyntax, 0},
		{"\"\n\"", api.ErrSyntax, 0},
		{"\"\x1f\"", api.ErrSyntax, 0},
		{"\x00", api.ErrSyntax, 0},
		{"\ufeff1", api.ErrSyntax, 0},
		{"x \xff", api.ErrUtf, 2}, // ahead of the fault on its left
		{"\"\xed\xa0\x80\"", api.ErrUtf, 1},
	}
	for _, c := range cases {
		toks, fault := jlex.Split([]byte(c.s))
		if len(toks) != 0 || fault != (api.Fault{Err: c.err, At: c.at}) {
			t.Errorf("Split(%q): %v, %v", c.s, toks, fault)
		}
	}
}

func TestP602Long(t *testing.T) {
	if _, fault := jlex.Split(bytes.Repeat([]byte(" "), api.MaxBytes)); fault != (api.Fault{}) {
		t.Errorf("MaxBytes bytes: %v", fault)
	}
	long := append([]byte("x\xff"), bytes.Repeat([]byte(" "), api.MaxBytes)...)
	if _, fault := jlex.Split(long); fault != (api.Fault{Err: api.ErrLong, At: api.MaxBytes}) {
		t.Errorf("more bytes: %v", fault)
	}
}

func TestP603Arguments(t *testing.T) {
	s := strings.Repeat(`{"a":[1,2]} `, 9)
	b := []byte(s)
	x, _ := jlex.Split(b)
	y, _ := jlex.Split(b)
	if string(b) != s || !slices.Equal(x, y) {
		t.Error("Split changes its argument or answers differently")
	}
}
