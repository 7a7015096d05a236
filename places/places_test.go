package places_test

import (
	"slices"
	"testing"

	"abridger/lines"
	"abridger/places"
)

func TestNextEnds(t *testing.T) {
	if p := places.Next(nil, places.Place{}); p != (places.Place{}) {
		t.Errorf("Next in no bytes = %v", p)
	}
	end := places.Place{Off: 1, Line: 0, Col: 1}
	if p := places.Next([]byte("a"), end); p != end {
		t.Errorf("Next at the end = %v", p)
	}
}

func TestAll(t *testing.T) {
	at := func(off, line, col int) places.Place { return places.Place{Off: off, Line: line, Col: col} }
	want := []places.Place{
		at(0, 0, 0), at(1, 0, 1), at(2, 0, 1), at(3, 0, 2), at(4, 1, 0), at(5, 2, 0), at(6, 3, 0),
		at(7, 3, 2), at(8, 3, 2), at(9, 3, 2), at(10, 3, 2), at(11, 3, 3), at(12, 4, 0),
	}
	if got := places.All([]byte("é\r\n\r\n\U0001f600\xff\r")); !slices.Equal(got[:4], want[:4]) || got[5] != at(5, 1, 1) || got[6] != at(6, 2, 0) {
		t.Errorf("All: %v", got)
	}
	if got := places.All([]byte("é\xff\n\r\r\U0001f600\xff\r")); !slices.Equal(got, want) {
		t.Errorf("All: %v", got)
	}
}

func TestAllAgreesWithAt(t *testing.T) {
	for _, s := range []string{"", "a", "a\nb", "\r\n\r\r\n", "é\U0001f600\xffx\n€", "\xe2\x82\r"} {
		all := places.All([]byte(s))
		if len(all) != len(s)+1 {
			t.Errorf("All(%q) has %d places", s, len(all))
		}
		for off, p := range all {
			line, col := lines.At([]byte(s), off)
			if p != (places.Place{Off: off, Line: line, Col: col}) {
				t.Errorf("All(%q)[%d] = %v, but At returns %d, %d", s, off, p, line, col)
			}
		}
	}
}
