package escape_test

import (
	"testing"

	"abridger/cinput"
	"abridger/escape"
)

func TestBegins(t *testing.T) {
	for s, want := range map[string]bool{"": false, "a": false, `\`: true, `\a`: true, "\\\n": false, "\\\r\n": false, `\\`: true, `a\`: false} {
		if got := escape.Begins(cinput.Runes([]byte(s)), 0); got != want {
			t.Errorf("Begins of %q is %v", s, got)
		}
	}
	l := cinput.Runes([]byte(`\a`))
	for _, at := range []int{-1, 2, 3, -1 << 63, 1<<63 - 1} {
		if escape.Begins(l, at) {
			t.Errorf("Begins at %d", at)
		}
	}
}

func TestTake(t *testing.T) {
	cases := []struct {
		s      string
		r, end int
	}{
		{`\`, 0xfffd, 1}, {`\g1`, 'g', 2}, {`\\a`, '\\', 2}, {`\é`, 0xe9, 2}, {`\ x`, ' ', 2},
		{`\61`, 'a', 3}, {`\61 b`, 'a', 4}, {"\\61\nb", 'a', 4}, {"\\61\t ", 'a', 4}, {`\61  `, 'a', 4}, {"\\61\r\n", 'a', 4},
		{`\0000611`, 'a', 7}, {`\000061 1`, 'a', 8}, {`\1F600g`, 0x1f600, 6}, {`\1f600`, 0x1f600, 6},
		{`\9aAfF0`, 0xfffd, 7}, {`\09aAf `, 0x9aaf, 7}, {`\9F `, 0x9f, 4}, {`\G`, 'G', 2}, {"\\`", '`', 2}, {`\@`, '@', 2}, {`\/`, '/', 2}, {`\:`, ':', 2},
		{`\0`, 0xfffd, 2}, {`\d800`, 0xfffd, 5}, {`\DFFF`, 0xfffd, 5}, {`\d7ff`, 0xd7ff, 5}, {`\e000`, 0xe000, 5},
		{`\10ffff`, 0x10ffff, 7}, {`\110000`, 0xfffd, 7}, {`\ffffff`, 0xfffd, 7},
	}
	for _, c := range cases {
		if r, end := escape.Take(cinput.Runes([]byte(c.s)), 0); r != c.r || end != c.end {
			t.Errorf("Take of %q: %x, %d", c.s, r, end)
		}
	}
}

func TestNumber(t *testing.T) {
	for r, want := range map[int]string{1: `\1 `, 31: `\1f `, 127: `\7f `, '0': `\30 `} {
		if got := escape.Number(r); got != want {
			t.Errorf("Number of %d: %q", r, got)
		}
	}
}
