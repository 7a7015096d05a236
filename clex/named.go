package clex

import (
	"abridger/api"
	"abridger/cinput"
	"abridger/cname"
	"abridger/escape"
	"abridger/fold"
)

// named returns the token that begins with a name.
func named(l []api.Rune, at int) (api.CTok, int) {
	name, end := cname.Take(l, at)
	if !stands(l, end, "(") {
		return api.CTok{Kind: api.CIdent, Text: name}, end
	}
	inner := skipBlanks(l, end+1)
	if fold.Lower(name) == "url" && !stands(l, inner, `"`) && !stands(l, inner, `'`) {
		return url(l, at, inner)
	}
	return api.CTok{Kind: api.CFunc, Text: name}, end + 1
}

// url returns the token of the url whose name begins at the index at, and
// whose text begins at the index inner.
func url(l []api.Rune, at, inner int) (api.CTok, int) {
	var text []api.Rune
	bad, blanks := false, false
	end := inner
	for end < len(l) && l[end].R != ')' {
		r, next := l[end].R, end+1
		if escape.Begins(l, end) {
			r, next = escape.Take(l, end)
			bad = bad || blanks
			text = append(text, api.Rune{R: r})
		} else if escape.IsBlank(r) {
			blanks = true
		} else {
			bad = bad || blanks || !inUrl(r)
			text = append(text, l[end])
		}
		end = next
	}
	end = min(end+1, len(l))
	if bad {
		return api.CTok{Kind: api.CBadUrl, Text: cinput.Text(l[at:end])}, end
	}
	return api.CTok{Kind: api.CUrl, Text: cinput.Text(text)}, end
}

// inUrl reports whether r, which is not a blank, may be in a url as it is. (A
// backslash that begins an escape does not come here.)
func inUrl(r int) bool {
	switch r {
	case '"', '\'', '(', '\\', 11, 127:
		return false
	}
	return r >= 9 && (r < 14 || r > 31)
}
