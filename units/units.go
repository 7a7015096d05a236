// Package units converts between code points and UTF-16 units. It serves the
// packages that read and write texts of JSON.
package units

const (
	aboveOne  = 0x10000 // code points from here on take two units
	high      = 0xd800
	low       = 0xdc00
	afterLow  = 0xe000
	shift     = 10
	lowerBits = 1<<shift - 1
)

// Append appends the units of the code point r to l.
func Append(l []int, r int) []int {
	if r < aboveOne {
		return append(l, r)
	}
	r -= aboveOne
	return append(l, high+r>>shift, low+r&lowerBits)
}

// First returns the code point at the beginning of l, which is not empty, and
// the number of its units. A surrogate that does not belong to a pair counts
// as a code point.
func First(l []int) (int, int) {
	if len(l) > 1 && l[0] >= high && l[0] < low && l[1] >= low && l[1] < afterLow {
		return aboveOne + (l[0]-high)<<shift + l[1] - low, 2
	}
	return l[0], 1
}

// IsSurrogate reports whether the unit u is a surrogate.
func IsSurrogate(u int) bool {
	return u >= high && u < afterLow
}
