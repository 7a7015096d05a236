package places_test

import (
	"testing"

	"abridger/lines"
	"abridger/places"
)

func TestNextEnds(t *testing.T) {
	if p := places.Next(nil, places.Place{}); p != (places.Place{}) {
		t.Errorf("Next in no bytes = %v", p)
	}
	end := places.Place{Off: 1, Line: 0, Col: 1}
	if p := places.Next([]byte("a"), end); p != end {
		t.Errorf("Next at the end = %v", p)
	}
}

func TestAllAgreesWithAt(t *testing.T) {
	for _, s := range []string{"", "a", "a\nb", "\r\n\r\r\n", "é\U0001f600\xffx\n€", "\xe2\x82\r"} {
		all := places.All([]byte(s))
		if len(all) != len(s)+1 {
			t.Errorf("All(%q) has %d places", s, len(all))
		}
		for off, p := range all {
			line, col := lines.At([]byte(s), off)
			if p != (places.Place{Off: off, Line: line, Col: col}) {
				t.Errorf("All(%q)[%d] = %v, but At returns %d, %d", s, off, p, line, col)
			}
		}
	}
}
