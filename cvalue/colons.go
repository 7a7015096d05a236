package cvalue

import (
	"abridger/api"
	"abridger/nest"
)

// Colons returns the indexes of the colons of declarations in l, in ascending
// order.
func Colons(l []api.CTok) []int {
	places := nest.Of(l)
	blocks := opensBlock(l, places)
	var out []int
	count, last := 0, 0 // the tokens since a statement began, and the kind of the last one
	for i, t := range l {
		p := places[i]
		if t.Kind == api.CColon && p.Depth > 0 && p.Blocks && count == 1 && last == api.CIdent && !blocks[i] {
			out = append(out, i)
		}
		if p.Blocks && isEnd(t) {
			count = 0
		} else if !isQuiet(t) {
			count++
			last = t.Kind
		}
	}
	return out
}

// isEnd reports whether t may begin or end a declaration.
func isEnd(t api.CTok) bool {
	return t.Kind == api.COpen || t.Kind == api.CClose || t.Kind == api.CSemi
}

// opensBlock tells for each token of l whether the first COpen, CClose or
// CSemi after it that is nested in as many tokens is a COpen.
func opensBlock(l []api.CTok, places []nest.Place) []bool {
	out := make([]bool, len(l))
	next := make([]int, len(l)+1) // by depth: the kind of the next such token
	for i := len(l) - 1; i >= 0; i-- {
		depth := places[i].Depth
		out[i] = next[depth] == api.COpen
		if isEnd(l[i]) {
			next[depth] = l[i].Kind
		}
	}
	return out
}
