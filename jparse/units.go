package jparse

import (
	"strconv"

	"abridger/units"
	"abridger/utf"
)

// Units returns the UTF-16 units of a text token and true, or none and false
// if b is not a text token.
func Units(b []byte) ([]int, bool) {
	end := len(b) - 1
	if end < 1 || b[0] != '"' || b[end] != '"' {
		return nil, false
	}
	inner := b[1:end]
	var out []int
	for at := 0; at < len(inner); {
		r, n := element(inner[at:])
		if n == 0 {
			return nil, false
		}
		out = units.Append(out, r)
		at += n
	}
	return out, true
}

// element returns what the first element of a text stands for, and the number
// of its bytes, which is 0 if no element begins there.
func element(b []byte) (int, int) {
	if b[0] == '\\' {
		return escape(b)
	}
	r, n, ok := utf.Next(b, 0)
	if !ok || r < ' ' || r == '"' {
		return 0, 0
	}
	return r, n
}

// escape does what element does, for an escape.
func escape(b []byte) (int, int) {
	if len(b) == 1 {
		return 0, 0
	}
	switch b[1] {
	case '"', '\\', '/':
		return int(b[1]), 2
	case 'b':
		return '\b', 2
	case 'f':
		return '\f', 2
	case 'n':
		return '\n', 2
	case 'r':
		return '\r', 2
	case 't':
		return '\t', 2
	case 'u':
		return numbered(b)
	}
	return 0, 0
}

// numbered does what element does, for \u and four digits.
func numbered(b []byte) (int, int) {
	const length = 6
	if len(b) < length {
		return 0, 0
	}
	unit, err := strconv.ParseUint(string(b[2:length]), 16, 16)
	if err != nil {
		return 0, 0
	}
	return int(unit), length
}
