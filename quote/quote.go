// Package quote writes strings of CSS between a given quote. It serves the
// packages cname and cmin.
package quote

import (
	"strings"

	"abridger/escape"
	"abridger/utf"
)

const replacement = 0xfffd

// Text returns the string token for s between two of the given quote.
func Text(s string, quote byte) string {
	b := []byte(s)
	out := []byte{quote}
	for at := 0; at < len(b); {
		r, n, _ := utf.Next(b, at)
		at += n
		switch r {
		case 0:
			out = put(out, replacement)
		case '\\', int(quote):
			out = append(out, '\\', byte(r))
		case '\n', '\f', '\r':
			next, _, more := utf.Next(b, at)
			out = append(out, lineBreak(r, more && joins(next))...)
		default:
			out = put(out, r)
		}
	}
	return string(append(out, quote))
}

// put appends the encoding of r.
func put(b []byte, r int) []byte {
	return append(b, utf.Put(nil, r)...)
}

// lineBreak writes a line break as a number, which ends with a space only if
// what follows would join it.
func lineBreak(r int, joined bool) string {
	s := escape.Number(r)
	if joined {
		return s
	}
	return strings.TrimSuffix(s, " ")
}

// joins reports whether r would join a number of an escape before it.
func joins(r int) bool {
	return escape.IsHex(r) || escape.IsBlank(r) || r == '\f' || r == '\r'
}
