package cspell

import (
	"strings"

	"abridger/api"
	"abridger/decimal"
	"abridger/number"
)

// Number returns the spelling of a number, or an empty string if there is
// none.
func Number(n api.Num, whole, sign bool) string {
	if !number.Right(n) {
		return ""
	}
	text := ""
	if whole {
		text = wholeText(n)
	} else {
		text = shortText(n)
	}
	switch {
	case text == "":
		return ""
	case n.Neg:
		return "-" + text
	case sign:
		return "+" + text
	}
	return text
}

// wholeText returns the text of a whole number, without its sign, or an empty
// string if it is too long.
func wholeText(n api.Num) string {
	if n.Digits == "" {
		return "0"
	}
	zeros, ok := decimal.Int(n.Exp)
	if !ok || zeros < 0 || zeros > api.MaxBytes {
		return ""
	}
	return n.Digits + strings.Repeat("0", zeros)
}

// shortText returns the shortest text of a number that contains a dot or an
// exponent, without its sign.
func shortText(n api.Num) string {
	if n.Digits == "" {
		return ".0"
	}
	n.Neg = false
	short := ""
	for _, s := range number.Plain(n) {
		if strings.HasPrefix(s, "0.") {
			s = s[1:]
		}
		if strings.ContainsAny(s, ".e") && (short == "" || len(s) < len(short)) {
			short = s
		}
	}
	// The digits, zeros and .0 are never shorter than the digits and an
	// exponent, so they are never written.
	return short
}
