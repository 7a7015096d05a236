// Package nest tells what the tokens of CSS are nested in. It serves the
// packages that know blocks and declarations.
package nest

import "abridger/api"

// Place tells what a token is nested in.
type Place struct {
	Depth  int  // the number of tokens that it is nested in
	Blocks bool // all of these are COpen
	Closes bool // it closes the last one of these
}

// Of returns the places of all tokens of l.
func Of(l []api.CTok) []Place {
	out := make([]Place, len(l))
	var open []int // the kinds that close the tokens that are open
	others := 0    // how many of these are not COpen
	for i, t := range l {
		n := len(open)
		closes := n > 0 && t.Kind == open[n-1]
		out[i] = Place{Depth: n, Blocks: others == 0, Closes: closes}
		if closes {
			open = open[:n-1]
			others -= countOther(t.Kind)
		}
		if shut := closer(t.Kind); shut != 0 {
			open = append(open, shut)
			others += countOther(shut)
		}
	}
	return out
}

// closer returns the kind that closes a token of the given kind, or 0 if that
// does not open anything.
func closer(kind int) int {
	switch kind {
	case api.CFunc, api.CLeft:
		return api.CRight
	case api.CBegin:
		return api.CEnd
	case api.COpen:
		return api.CClose
	}
	return 0
}

// countOther returns 1 for a kind that closes anything but a COpen.
func countOther(shut int) int {
	if shut == api.CClose {
		return 0
	}
	return 1
}
