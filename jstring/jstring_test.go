package jstring_test

import (
	"slices"
	"testing"

	"abridger/jparse"
	"abridger/jstring"
)

func TestP801Right(t *testing.T) {
	for _, l := range [][]int{nil, {}, {0}, {65535}, {0xd800, 0}, {1, 2, 3}} {
		if !jstring.Right(l) {
			t.Errorf("Right(%v) is false", l)
		}
	}
	for _, l := range [][]int{{-1}, {65536}, {'a', -1}, {65536, 'a'}, {1 << 40}} {
		if jstring.Right(l) {
			t.Errorf("Right(%v) is true", l)
		}
		if got := jstring.Spell(l); got != "" {
			t.Errorf("Spell(%v) = %q", l, got)
		}
	}
}

func TestP801Spell(t *testing.T) {
	cases := []struct {
		l    []int
		want string
	}{
		{nil, `""`},
		{[]int{'a', ' ', '/', '\''}, `"a /'"`},
		{[]int{'"', '\\', 8, 12, 10, 13, 9}, `"\"\\\b\f\n\r\t"`},
		{[]int{0, 1, 7, 11, 31}, `"\u0000\u0001\u0007\u000b\u001f"`},
		{[]int{32, 127, 128}, "\" \x7f\u0080\""},
		{[]int{0xe9, 0x20ac, 0xffff, 0xfffd}, "\"é€\uffff\ufffd\""},
		{[]int{0xd83d, 0xde00}, `"😀"`},
		{[]int{0xd800, 0xdc00, 0xdbff, 0xdfff}, "\"\U00010000\U0010ffff\""},
		{[]int{0xd800}, `"\ud800"`},
		{[]int{0xdfff, 0xd800}, `"\udfff\ud800"`},
		{[]int{0xd800, 0xd800, 0xdc00}, "\"\\ud800\U00010000\""},
		{[]int{0xdbff, 'a'}, `"\udbffa"`},
		{[]int{0xd7ff, 0xe000}, "\"\ud7ff\ue000\""},
	}
	for _, c := range cases {
		if got := jstring.Spell(c.l); got != c.want {
			t.Errorf("Spell(%x) = %q, want %q", c.l, got, c.want)
		}
	}
}

func TestP802UnitsOfSpell(t *testing.T) {
	some := []int{0, 8, 9, 10, 12, 13, 31, 32, '"', '/', '\\', 'u', 127, 0xd7ff, 0xd800, 0xdbff, 0xdc00, 0xdfff, 0xe000, 0xfffd, 0xffff}
	for _, a := range some {
		for _, b := range some {
			for _, c := range some {
				l := []int{a, b, c}
				s := jstring.Spell(l)
				if got, ok := jparse.Units([]byte(s)); !slices.Equal(got, l) || !ok {
					t.Fatalf("Units(%q) = %x, %v, want %x", s, got, ok, l)
				}
				if !slices.Equal(l, []int{a, b, c}) {
					t.Fatal("Spell changes its argument")
				}
			}
		}
	}
}
