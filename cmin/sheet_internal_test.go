package cmin

import (
	"math/rand"
	"slices"
	"strings"
	"testing"
)

// sheetOf returns the choices for a style sheet.
func sheetOf(text string) sheet {
	var s sheet
	for _, t := range Value([]byte(text)) {
		s = append(s, choices(t))
	}
	return s
}

func TestP2002WaysAgree(t *testing.T) {
	r := rand.New(rand.NewSource(2002))
	pieces := strings.Split("a|-|>|<|!|<!--|--|1|.5|+|.|e3|%|#|#c0c0c0|red|blue|@|(|)|{|}|:|;|,|/|*|/*!*/|'x\"'|\"\"|\"\n|url(''|f(|\\|\n| |/**/|/**/|px", "|")
	plain := 0
	for range 4000 {
		text := "a{color:"[:r.Intn(2)*8]
		for range 1 + r.Intn(7) {
			text += pieces[r.Intn(len(pieces))]
		}
		s := sheetOf(text)
		if len(s) == 0 {
			continue
		}
		if l := s.plain(); len(l) > 0 {
			plain++
			if !slices.Equal(l, s.full()) {
				t.Fatalf("%q: %v, but %v", text, l, s.full())
			}
		}
	}
	if plain < 500 {
		t.Errorf("the plain way succeeds %d times", plain)
	}
}

func TestP2002PlainWay(t *testing.T) {
	for text, want := range map[string]bool{
		"a": true, "a{b:c}": true, "a{color:blue}": true, "a 'b'": true, "a/**/b": false, "a{color:red}": false, "</**/!/**/--x": false, "'\"'": false,
	} {
		if got := len(sheetOf(text).plain()) > 0; got != want {
			t.Errorf("the plain way of %q: %v", text, got)
		}
	}
}
