package lines_test

import (
	"testing"

	"abridger/lines"
)

func TestP201At(t *testing.T) {
	cases := []struct {
		b              string
		off, line, col int
	}{
		{"", 0, 0, 0},
		{"", 5, 0, 0},
		{"ab\ncd", -3, 0, 0},
		{"ab\ncd", 2, 0, 2},
		{"ab\ncd", 3, 1, 0},
		{"ab\ncd", 5, 1, 2},
		{"ab\ncd", 99, 1, 2},
		{"a\r\nb", 1, 0, 1},
		{"a\r\nb", 2, 0, 2}, // the 10 belongs to the line that it ends
		{"a\r\nb", 3, 1, 0},
		{"a\rb", 2, 1, 0},
		{"a\r", 2, 1, 0},
		{"\n\r", 2, 2, 0},
		{"é€x", 1, 0, 1}, // within é, which begins before it
		{"é€x", 2, 0, 1},
		{"é€x", 3, 0, 2},
		{"é€x", 5, 0, 2},
		{"\U0001f600x", 1, 0, 2},
		{"\U0001f600x", 4, 0, 2},
		{"\xff\xe2\x82x", 1, 0, 1},
		{"\xff\xe2\x82x", 3, 0, 3},
		{"\v\f\u2028x", 5, 0, 3}, // none of these ends a line
	}
	for _, c := range cases {
		line, col := lines.At([]byte(c.b), c.off)
		if line != c.line || col != c.col {
			t.Errorf("At(%q, %d) = %d, %d", c.b, c.off, line, col)
		}
	}
}

func TestP201Back(t *testing.T) {
	cases := []struct {
		b         string
		line, col int
		off       int
		ok        bool
	}{
		{"", 0, 0, 0, true},
		{"", 0, 1, 0, false},
		{"", 1, 0, 0, false},
		{"ab\ncd", 0, 2, 2, true},
		{"ab\ncd", 0, 3, 0, false},
		{"ab\ncd", 1, 0, 3, true},
		{"ab\ncd", 1, 2, 5, true},
		{"ab\ncd", -1, 0, 0, false},
		{"ab\ncd", 0, -1, 0, false},
		{"a\r\nb", 0, 2, 2, true},
		{"é€x", 0, 1, 2, true}, // the greatest of 1 and 2
		{"\U0001f600x", 0, 1, 0, false},
		{"\U0001f600x", 0, 2, 4, true},
		{"a\r", 1, 0, 2, true},
	}
	for _, c := range cases {
		off, ok := lines.Back([]byte(c.b), c.line, c.col)
		if off != c.off || ok != c.ok {
			t.Errorf("Back(%q, %d, %d) = %d, %v", c.b, c.line, c.col, off, ok)
		}
	}
}

func TestP201BackOfAt(t *testing.T) {
	b := []byte("é\r\n\U0001f600\xffa\r\rb\n€")
	for off := range len(b) + 1 {
		line, col := lines.At(b, off)
		want := off
		for o := range len(b) + 1 {
			if l, c := lines.At(b, o); l == line && c == col {
				want = max(want, o)
			}
		}
		if got, ok := lines.Back(b, line, col); got != want || !ok {
			t.Errorf("Back of At of %d = %d, %v, want %d", off, got, ok, want)
		}
	}
}

func TestP201Count(t *testing.T) {
	for s, want := range map[string]int{"": 1, "a": 1, "\n": 2, "\r\n": 2, "\n\r": 3, "\r\r\n\n": 4, "a\rb": 2} {
		if got := lines.Count([]byte(s)); got != want {
			t.Errorf("Count(%q) = %d", s, got)
		}
	}
}

func TestP202Arguments(t *testing.T) {
	b := []byte("a\nb\xff")
	lines.At(b, 3)
	lines.Back(b, 1, 1)
	lines.Count(b)
	if string(b) != "a\nb\xff" {
		t.Errorf("the argument was changed to %q", b)
	}
}
