// Package tokens compares tokens of CSS. It serves the packages that write
// tokens and must know how they would be read again.
package tokens

import (
	"slices"

	"abridger/api"
	"abridger/cinput"
	"abridger/clex"
	"abridger/fold"
)

// LineBound reports whether t ends only before a line break.
func LineBound(t api.CTok) bool {
	return t.Kind == api.CBadStr || t.Kind == api.CDelim && t.Text == `\`
}

// IsURL reports whether t is the function url, whose name and bracket alone
// would be read as a url.
func IsURL(t api.CTok) bool {
	return t.Kind == api.CFunc && fold.Lower(t.Text) == "url"
}

// Equal reports whether a and b are equal, apart from From.
func Equal(a, b []api.CTok) bool {
	return slices.EqualFunc(a, b, func(x, y api.CTok) bool {
		y.From = x.From
		return x == y
	})
}

// Reads reports whether the text s is read as the tokens l, apart from From.
// What the last token needs after it is put there.
func Reads(s string, l []api.CTok) bool {
	want := slices.Clone(l)
	if n := len(l); n > 0 && LineBound(l[n-1]) {
		s += "\n"
		want = append(want, api.CTok{Kind: api.CSpace, Text: "\n"})
	} else if n > 0 && IsURL(l[n-1]) {
		s += `""`
		want = append(want, api.CTok{Kind: api.CString})
	}
	return Equal(clex.Split(cinput.Runes([]byte(s))), want)
}
