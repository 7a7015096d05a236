package units_test

import (
	"slices"
	"testing"
	"unicode/utf16"

	"abridger/units"
)

func TestAppendAndFirst(t *testing.T) {
	for _, r := range []rune{0, 'a', 0xd7ff, 0xe000, 0xffff, 0x10000, 0x1f600, 0x10ffff} {
		want := []int{7}
		for _, u := range utf16.Encode([]rune{r}) {
			want = append(want, int(u))
		}
		got := units.Append([]int{7}, int(r))
		if !slices.Equal(got, want) {
			t.Errorf("Append of %x = %x", r, got)
		}
		if first, n := units.First(append(got[1:], 'x')); first != int(r) || n != len(got)-1 {
			t.Errorf("First of %x = %x, %d", got[1:], first, n)
		}
	}
}

func TestFirstOfSurrogates(t *testing.T) {
	for _, l := range [][]int{{0xd800}, {0xdc00}, {0xd800, 'a'}, {0xdc00, 0xd800}, {0xd800, 0xd800}, {0xdbff, 0xe000}, {0xdc00, 0xdc00}, {0xd7ff, 0xdc00}} {
		if r, n := units.First(l); r != l[0] || n != 1 {
			t.Errorf("First of %x = %x, %d", l, r, n)
		}
	}
}

func TestIsSurrogate(t *testing.T) {
	for u, want := range map[int]bool{0xd7ff: false, 0xd800: true, 0xdbff: true, 0xdc00: true, 0xdfff: true, 0xe000: false} {
		if units.IsSurrogate(u) != want {
			t.Errorf("IsSurrogate of %x is %v", u, !want)
		}
	}
}
