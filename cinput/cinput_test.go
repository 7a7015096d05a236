package cinput_test

import (
	"slices"
	"testing"

	"abridger/api"
	"abridger/cinput"
)

func TestP1301Runes(t *testing.T) {
	cases := []struct {
		s    string
		want []api.Rune
	}{
		{"", nil},
		{"aé€😀b", []api.Rune{{R: 'a', At: 0}, {R: 0xe9, At: 1}, {R: 0x20ac, At: 3}, {R: 0x1f600, At: 6}, {R: 'b', At: 10}}},
		{"\x00\xff\xe2\x82x", []api.Rune{{R: 0xfffd, At: 0}, {R: 0xfffd, At: 1}, {R: 0xfffd, At: 2}, {R: 0xfffd, At: 3}, {R: 'x', At: 4}}},
		{"\ufffd", []api.Rune{{R: 0xfffd, At: 0}}},
		{"\n\f\r", []api.Rune{{R: 10, At: 0}, {R: 10, At: 1}, {R: 10, At: 2}}},
		{"\r\na", []api.Rune{{R: 10, At: 0}, {R: 'a', At: 2}}},
		{"\r\r\n\n", []api.Rune{{R: 10, At: 0}, {R: 10, At: 1}, {R: 10, At: 3}}},
		{"\f\n", []api.Rune{{R: 10, At: 0}, {R: 10, At: 1}}},
		{"\r\f", []api.Rune{{R: 10, At: 0}, {R: 10, At: 1}}},
		{"\ufeff\t\v", []api.Rune{{R: 0xfeff, At: 0}, {R: 9, At: 3}, {R: 11, At: 4}}},
	}
	for _, c := range cases {
		b := []byte(c.s)
		if got := cinput.Runes(b); !slices.Equal(got, c.want) || string(b) != c.s {
			t.Errorf("Runes(%q) = %v", c.s, got)
		}
	}
}

func TestP1301Text(t *testing.T) {
	cases := []struct {
		l    []int
		want string
	}{
		{nil, ""},
		{[]int{'a', 0xe9, 0x20ac, 0x1f600, 0, 13}, "aé€😀\x00\r"},
		{[]int{-1, 0xd800, 0x110000, 1 << 40}, "\ufffd\ufffd\ufffd\ufffd"},
	}
	for _, c := range cases {
		var l []api.Rune
		for _, r := range c.l {
			l = append(l, api.Rune{R: r, At: -7})
		}
		if got := cinput.Text(l); got != c.want {
			t.Errorf("Text(%v) = %q", c.l, got)
		}
	}
}

func TestP1302SameAnswers(t *testing.T) {
	s := "a\r\nb\x00"
	first := cinput.Runes([]byte(s))
	second := cinput.Runes([]byte(s))
	first[0].R = 'z'
	if second[0].R != 'a' {
		t.Error("answers share memory")
	}
}
