package nest_test

import (
	"testing"

	"abridger/cinput"
	"abridger/clex"
	"abridger/nest"
)

func TestOf(t *testing.T) {
	cases := []struct{ s, depths, blocks, closes string }{
		{"", "", "", ""},
		{"a{b}c", "00110", "yyyyy", "nnnyn"},
		{"({[a(b)]})", "012344321", "ynnnnnnnn", "nnnnnyyyy"},
		{"{(})}", "01221", "yynny", "nnnyy"},
		{"}a)", "000", "yyy", "nnn"},
		{"{[}]}a", "012210", "yynnyy", "nnnyyn"},
	}
	for _, c := range cases {
		check(t, c.s, c.depths, c.blocks, c.closes)
	}
}

func check(t *testing.T, s, depths, blocks, closes string) {
	t.Helper()
	d, b, c := "", "", ""
	for _, p := range nest.Of(clex.Split(cinput.Runes([]byte(s)))) {
		d += string(rune('0' + p.Depth))
		b += yes(p.Blocks)
		c += yes(p.Closes)
	}
	if d != depths || b != blocks || c != closes {
		t.Errorf("%q: %s %s %s", s, d, b, c)
	}
}

func yes(ok bool) string {
	if ok {
		return "y"
	}
	return "n"
}
