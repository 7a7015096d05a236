package utf_test

import (
	"bytes"
	"testing"

	"abridger/utf"
)

func TestP101Next(t *testing.T) {
	cases := []struct {
		b    string
		at   int
		r, n int
		ok   bool
	}{
		{"abc", 0, 'a', 1, true},
		{"abc", 3, 0, 0, false},
		{"abc", -1, 0, 0, false},
		{"", 0, 0, 0, false},
		{"\x00", 0, 0, 1, true},
		{"é", 0, 0xe9, 2, true},
		{"é", 1, 0xfffd, 1, false},
		{"x\u20ac", 1, 0x20ac, 3, true},
		{"\U0001f600", 0, 0x1f600, 4, true},
		{"\U0010ffff", 0, 0x10ffff, 4, true},
		{"\ufffd", 0, 0xfffd, 3, true},
		{"\xff", 0, 0xfffd, 1, false},
		{"\xc0\x80", 0, 0xfffd, 1, false},         // not the shortest form
		{"\xed\xa0\x80", 0, 0xfffd, 1, false},     // a surrogate
		{"\xf4\x90\x80\x80", 0, 0xfffd, 1, false}, // above U+10FFFF
		{"\xe2\x82", 0, 0xfffd, 1, false},         // cut off
	}
	for _, c := range cases {
		r, n, ok := utf.Next([]byte(c.b), c.at)
		if r != c.r || n != c.n || ok != c.ok {
			t.Errorf("Next(%q, %d) = %x, %d, %v", c.b, c.at, r, n, ok)
		}
	}
}

func TestP101Valid(t *testing.T) {
	cases := []struct {
		b  string
		n  int
		ok bool
	}{
		{"", 0, true},
		{"aé€\U0001f600", 10, true},
		{"a\xffb", 1, false},
		{"é\xc3", 2, false},
		{"\x80", 0, false},
		{"\ufffd", 3, true},
	}
	for _, c := range cases {
		n, ok := utf.Valid([]byte(c.b))
		if n != c.n || ok != c.ok {
			t.Errorf("Valid(%q) = %d, %v", c.b, n, ok)
		}
	}
}

func TestP101Put(t *testing.T) {
	cases := []struct {
		b    string
		r    int
		want string
	}{
		{"", 'a', "a"},
		{"x", 0, "x\x00"},
		{"x", 0xe9, "xé"},
		{"x", 0x20ac, "x€"},
		{"x", 0x1f600, "x\U0001f600"},
		{"x", 0x10ffff, "x\U0010ffff"},
		{"x", 0x110000, "x\ufffd"},
		{"x", 0xd800, "x\ufffd"},
		{"x", 0xdfff, "x\ufffd"},
		{"x", -1, "x\ufffd"},
		{"x", 1<<32 + 'a', "x\ufffd"},
		{"\xff", 'a', "\xffa"},
	}
	for _, c := range cases {
		if got := utf.Put([]byte(c.b), c.r); string(got) != c.want {
			t.Errorf("Put(%q, %x) = %q", c.b, c.r, got)
		}
	}
}

func TestP101Units(t *testing.T) {
	for r, want := range map[int]int{-1: 1, 0: 1, 65: 1, 0xffff: 1, 0x10000: 2, 0x10ffff: 2} {
		if got := utf.Units(r); got != want {
			t.Errorf("Units(%x) = %d", r, got)
		}
	}
}

func TestP102Memory(t *testing.T) {
	own := make([]byte, 1, 9)
	a, b := utf.Put(own, 'a'), utf.Put(own, 'b')
	if string(a) != "\x00a" || string(b) != "\x00b" || !bytes.Equal(own[:2], []byte{0, 0}) {
		t.Errorf("Put shares memory: %q, %q, %q", a, b, own[:2])
	}
}
