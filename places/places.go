// Package places walks through a text and tells lines and columns. It serves
// the packages lines and pieces, which need single places and all of them.
package places

import "abridger/utf"

// Place is an offset in a text, with its line and column. The zero Place is
// the beginning of every text.
type Place struct{ Off, Line, Col int }

// Next returns the place after the code point (or the byte at which no
// encoding begins) at p. An offset within that code point has the line and
// column of the place that Next returns. At the end of b, Next returns p.
func Next(b []byte, p Place) Place {
	r, n, _ := utf.Next(b, p.Off)
	if n > 0 && endsLine(b, p.Off) {
		return Place{p.Off + n, p.Line + 1, 0}
	}
	if n > 0 {
		return Place{p.Off + n, p.Line, p.Col + utf.Units(r)}
	}
	return p
}

// endsLine reports whether a line ends after the byte with the index at.
func endsLine(b []byte, at int) bool {
	if b[at] == '\r' {
		return at+1 == len(b) || b[at+1] != '\n'
	}
	return b[at] == '\n'
}

// All returns the places of all offsets from 0 to len(b).
func All(b []byte) []Place {
	all := make([]Place, 1, len(b)+1)
	p := Place{}
	for p.Off < len(b) {
		p = Next(b, p)
		for off := len(all); off <= p.Off; off++ {
			all = append(all, Place{off, p.Line, p.Col})
		}
	}
	return all
}
