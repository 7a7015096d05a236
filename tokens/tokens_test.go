package tokens_test

import (
	"testing"

	"abridger/api"
	"abridger/tokens"
)

func TestKinds(t *testing.T) {
	cases := []struct {
		t          api.CTok
		bound, url bool
	}{
		{api.CTok{}, false, false},
		{api.CTok{Kind: api.CBadStr, Text: "'a"}, true, false},
		{api.CTok{Kind: api.CDelim, Text: `\`}, true, false},
		{api.CTok{Kind: api.CDelim, Text: "/"}, false, false},
		{api.CTok{Kind: api.CIdent, Text: `\`}, false, false},
		{api.CTok{Kind: api.CFunc, Text: "uRl"}, false, true},
		{api.CTok{Kind: api.CFunc, Text: "url-"}, false, false},
		{api.CTok{Kind: api.CIdent, Text: "url"}, false, false},
	}
	for _, c := range cases {
		if tokens.LineBound(c.t) != c.bound || tokens.IsURL(c.t) != c.url {
			t.Errorf("%v", c.t)
		}
	}
}

func TestEqual(t *testing.T) {
	a := []api.CTok{{Kind: api.CIdent, Text: "a", From: 1}, {Kind: api.CColon}}
	b := []api.CTok{{Kind: api.CIdent, Text: "a", From: 7}, {Kind: api.CColon, From: 9}}
	if !tokens.Equal(a, b) || !tokens.Equal(nil, nil) {
		t.Error("Equal is false")
	}
	if tokens.Equal(a, b[:1]) || tokens.Equal(a, []api.CTok{a[0], a[0]}) || b[0].From != 7 {
		t.Error("Equal is true")
	}
}

func TestReads(t *testing.T) {
	a := api.CTok{Kind: api.CIdent, Text: "a"}
	bad := api.CTok{Kind: api.CBadStr, Text: "'a"}
	url := api.CTok{Kind: api.CFunc, Text: "URL"}
	cases := []struct {
		s    string
		l    []api.CTok
		want bool
	}{
		{"", nil, true}, {"a", nil, false}, {"", []api.CTok{a}, false}, {"a", []api.CTok{a}, true}, {"b", []api.CTok{a}, false},
		{"'a", []api.CTok{bad}, true}, {"'a\na", []api.CTok{bad, a}, false}, {"URL(", []api.CTok{url}, true},
		{"URL(a", []api.CTok{url, a}, false}, {"aa", []api.CTok{a, a}, false},
	}
	for _, c := range cases {
		if tokens.Reads(c.s, c.l) != c.want {
			t.Errorf("Reads(%q, %v) is %v", c.s, c.l, !c.want)
		}
	}
}
