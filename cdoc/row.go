package cdoc

import (
	"abridger/api"
	"abridger/cglue"
	"abridger/cinput"
	"abridger/clex"
	"abridger/cmin"
	"abridger/doc"
)

// row returns the row of a list of tokens.
func row(l []api.CTok) []api.Doc {
	var out []api.Doc
	var ahead api.CTok   // what is directly before the token, if anything is
	onlyComments := true // up to the token
	for i, t := range l {
		out = append(out, single(t))
		onlyComments = onlyComments && t.Kind == api.CComment
		if i+1 == len(l) {
			break
		}
		between := separator(ahead, t, l[i+1], onlyComments)
		out = append(out, between...)
		ahead = plain(t)
		if len(between) > 0 {
			ahead = api.CTok{}
		}
	}
	return out
}

// separator returns what is between the tokens a and b in a row.
func separator(ahead, a, b api.CTok, onlyComments bool) []api.Doc {
	switch {
	case a.Kind == api.CComma:
		return []api.Doc{{Kind: api.DSpace}}
	case onlyComments:
		return []api.Doc{hard()}
	case a.Kind != api.CSpace && b.Kind != api.CSpace && cglue.Needs(ahead, plain(a), plain(b)):
		return []api.Doc{doc.Text("/**/", -1)}
	}
	return nil
}

// single returns the document of a token.
func single(t api.CTok) api.Doc {
	if t.Kind == api.CSpace && t.Text == "\n" {
		return hard()
	}
	if t.Kind == api.CSpace {
		return api.Doc{Kind: api.DSpace}
	}
	return doc.Text(cmin.Options(t)[0], t.From)
}

// plain returns t, or what the first Option of a CColour represents.
func plain(t api.CTok) api.CTok {
	if t.Kind != api.CColour {
		return t
	}
	return clex.Split(cinput.Runes([]byte(cmin.Options(t)[0])))[0]
}
