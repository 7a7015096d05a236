package clex

import (
	"strings"

	"abridger/api"
	"abridger/cinput"
	"abridger/cname"
	"abridger/number"
)

// numberBegins reports whether a number begins at the index at.
func numberBegins(l []api.Rune, at int) bool {
	at = skipSign(l, at)
	return digitAt(l, at) || fractionAt(l, at)
}

func digitAt(l []api.Rune, at int) bool {
	return at < len(l) && l[at].R >= '0' && l[at].R <= '9'
}

// fractionAt reports whether a dot and a digit stand at the index at.
func fractionAt(l []api.Rune, at int) bool {
	return stands(l, at, ".") && digitAt(l, at+1)
}

// skipSign returns the index after the sign at the index at, if there is one.
func skipSign(l []api.Rune, at int) int {
	if stands(l, at, "+") || stands(l, at, "-") {
		return at + 1
	}
	return at
}

func skipDigits(l []api.Rune, at int) int {
	for digitAt(l, at) {
		at++
	}
	return at
}

// numberEnd returns the index after the number that begins at the index at.
func numberEnd(l []api.Rune, at int) int {
	end := skipDigits(l, skipSign(l, at))
	if fractionAt(l, end) {
		end = skipDigits(l, end+1)
	}
	if stands(l, end, "e") || stands(l, end, "E") {
		digits := skipSign(l, end+1)
		if digitAt(l, digits) {
			end = skipDigits(l, digits)
		}
	}
	return end
}

// numeric returns the token that begins with a number.
func numeric(l []api.Rune, at int) (api.CTok, int) {
	end := numberEnd(l, at)
	s := cinput.Text(l[at:end])
	t := api.CTok{Kind: api.CNumber, Flag: !strings.ContainsAny(s, ".eE"), Sign: strings.HasPrefix(s, "+")}
	t.Num, _ = number.Read(s)
	if cname.Begins(l, end) {
		t.Kind = api.CDim
		t.Unit, end = cname.Take(l, end)
	} else if stands(l, end, "%") {
		t.Kind = api.CPercent
		end++
	}
	return t, end
}
