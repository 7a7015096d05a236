// Package escape reads and writes escapes of CSS. It serves the packages that
// read and write names, strings and urls.
package escape

import (
	"strconv"

	"abridger/api"
)

const (
	replacement = 0xfffd
	last        = 0x10ffff
	maxDigits   = 6
)

// Begins reports whether an escape begins at the index at.
func Begins(l []api.Rune, at int) bool {
	if at < 0 || at >= len(l) || l[at].R != '\\' {
		return false
	}
	return at+1 == len(l) || l[at+1].R != '\n'
}

// Take returns the code point that the escape at the index at stands for, and
// the index after it. An escape must begin there.
func Take(l []api.Rune, at int) (int, int) {
	at++
	if at == len(l) {
		return replacement, at
	}
	if !IsHex(l[at].R) {
		return l[at].R, at + 1
	}
	r, end := 0, at
	for end < len(l) && end-at < maxDigits && IsHex(l[end].R) {
		r = r<<4 | hexValue(l[end].R)
		end++
	}
	if end < len(l) && IsBlank(l[end].R) {
		end++
	}
	if r == 0 || r >= 0xd800 && r <= 0xdfff || r > last {
		r = replacement
	}
	return r, end
}

// Number writes a code point as a number.
func Number(r int) string {
	return `\` + strconv.FormatInt(int64(r), 16) + " "
}

// IsHex reports whether r is a hexadecimal digit.
func IsHex(r int) bool {
	return r >= '0' && r <= '9' || r >= 'a' && r <= 'f' || r >= 'A' && r <= 'F'
}

// hexValue returns the value of a hexadecimal digit.
func hexValue(r int) int {
	switch {
	case r <= '9':
		return r - '0'
	case r <= 'F':
		return r - 'A' + 10
	}
	return r - 'a' + 10
}

// IsBlank reports whether r is a blank of CSS.
func IsBlank(r int) bool {
	return r == ' ' || r == '\t' || r == '\n'
}
