// Package utf decodes and encodes UTF-8.
package utf

import (
	"slices"
	"unicode/utf8"
)

const (
	replacement = 0xfffd
	last        = 0x10ffff
	aboveOne    = 0x10000 // code points from here on take two UTF-16 units
)

// Next returns the code point whose encoding begins at the byte with the
// index at, its number of bytes, and true. If no encoding begins there, it
// returns U+FFFD, 1 and false; if there is no such byte, 0, 0 and false.
func Next(b []byte, at int) (int, int, bool) {
	if at < 0 || at >= len(b) {
		return 0, 0, false
	}
	r, n := utf8.DecodeRune(b[at:])
	if r == utf8.RuneError && n == 1 {
		return replacement, 1, false
	}
	return int(r), n, true
}

// Valid returns the number of bytes of b and true, or the index of the first
// byte at which no encoding begins, and false.
func Valid(b []byte) (int, bool) {
	at := 0
	for at < len(b) {
		_, n, ok := Next(b, at)
		if !ok {
			return at, false
		}
		at += n
	}
	return at, true
}

// Put returns b followed by the encoding of r, or by that of U+FFFD if r is
// not a code point.
func Put(b []byte, r int) []byte {
	if !isCodePoint(r) {
		r = replacement
	}
	// Appending to b itself would write into its spare capacity.
	return utf8.AppendRune(slices.Clone(b), rune(r))
}

// isCodePoint reports whether r is in range and not a surrogate.
func isCodePoint(r int) bool {
	return r >= 0 && r <= last && (r < 0xd800 || r > 0xdfff)
}

// Units returns the number of UTF-16 units of a code point.
func Units(r int) int {
	if r >= aboveOne {
		return 2
	}
	return 1
}
