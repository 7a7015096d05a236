package pieces_test

import (
	"math"
	"slices"
	"testing"

	"abridger/api"
	"abridger/lines"
	"abridger/pieces"
)

func TestP2301Segments(t *testing.T) {
	src := []byte("é\r\nb\U0001f600c")
	l := []api.Piece{
		{Text: "a", From: 0}, {Text: "\U0001f600", From: 2}, {Text: "", From: 1}, {Text: "\n  ", From: -1}, {Text: "b\r", From: 4},
		{Text: "\nc", From: 9}, {Text: "d", From: 10}, {Text: "e", From: 11}, {Text: "f", From: 1}, {Text: "g", From: math.MinInt}, {Text: "h", From: 3},
	}
	want := []api.Segment{
		{Line: 0, Col: 0, SrcLine: 0, SrcCol: 0},
		{Line: 0, Col: 1, SrcLine: 0, SrcCol: 1},
		{Line: 1, Col: 2, SrcLine: 1, SrcCol: 0},
		{Line: 1, Col: 4, SrcLine: 1, SrcCol: 3}, // its first byte ends the line, with the 13 of the piece before
		{Line: 2, Col: 1, SrcLine: 1, SrcCol: 4}, // the end of src
		{Line: 2, Col: 3, SrcLine: 0, SrcCol: 1}, // within a code point
		{Line: 2, Col: 5, SrcLine: 0, SrcCol: 2},
	}
	if got := pieces.Segments(l, src); !slices.Equal(got, want) {
		t.Errorf("Segments: %v", got)
	}
}

func TestP2301CutCodePoints(t *testing.T) {
	l := []api.Piece{{Text: "\xf0\x9f", From: 0}, {Text: "\x98\x80", From: 0}, {Text: "\xff", From: 0}, {Text: "x", From: 0}}
	whole := []byte("\xf0\x9f\x98\x80\xffx")
	var want []api.Segment
	for _, off := range []int{0, 2, 4, 5} {
		line, col := lines.At(whole, off)
		want = append(want, api.Segment{Line: line, Col: col})
	}
	if got := pieces.Segments(l, nil); !slices.Equal(got, want) {
		t.Errorf("Segments: %v, want %v", got, want)
	}
}

func TestP2301None(t *testing.T) {
	if got := pieces.Segments(nil, []byte("a")); len(got) != 0 {
		t.Errorf("Segments: %v", got)
	}
	l := []api.Piece{{Text: "", From: 0}, {Text: "a", From: -1}, {Text: "a", From: 1}, {Text: "a", From: math.MaxInt}}
	if got := pieces.Segments(l, nil); len(got) != 0 {
		t.Errorf("Segments: %v", got)
	}
}

func TestP2302Arguments(t *testing.T) {
	l, src := []api.Piece{{Text: "ab", From: 1}}, []byte("xy")
	first := pieces.Segments(l, src)
	first[0].Line = 9
	if pieces.Segments(l, src)[0].Line != 0 || l[0] != (api.Piece{Text: "ab", From: 1}) || string(src) != "xy" {
		t.Error("Segments changes its arguments or shares memory")
	}
}
