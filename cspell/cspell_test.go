package cspell_test

import (
	"slices"
	"strings"
	"testing"

	"abridger/api"
	"abridger/cinput"
	"abridger/clex"
	"abridger/cspell"
	"abridger/number"
)

func split(s string) []api.CTok { return clex.Split(cinput.Runes([]byte(s))) }

func read(s string) api.Num {
	n, _ := number.Read(s)
	return n
}

func TestP1601Number(t *testing.T) {
	cases := []struct {
		s                 string
		whole, part, plus string
	}{
		{"0", "0", ".0", "+.0"},
		{"-0", "-0", "-.0", "-.0"},
		{"5", "5", "5e0", "+5e0"},
		{"-5", "-5", "-5e0", "-5e0"},
		{"50", "50", "5e1", "+5e1"},
		{"12", "12", "12e0", "+12e0"},
		{"0.5", "", ".5", "+.5"},
		{"-0.05", "", "-.05", "-.05"},
		{"0.005", "", ".005", "+.005"},
		{"0.0005", "", "5e-4", "+5e-4"},
		{"1.5", "", "1.5", "+1.5"},
		{"12.5", "", "12.5", "+12.5"},
		{"1e3", "1000", "1e3", "+1e3"},
		{"1234567", "1234567", "1234567e0", "+1234567e0"},
		{"1e-99", "", "1e-99", "+1e-99"},
		{"1e20000", "1" + strings.Repeat("0", 20000), "1e20000", "+1e20000"},
		{"1e20001", "", "1e20001", "+1e20001"},
		{"1e9999999", "", "1e9999999", "+1e9999999"},
	}
	for _, c := range cases {
		if got := cspell.Number(read(c.s), true, false); got != c.whole {
			t.Errorf("Number(%s, true, false) = %.40q", c.s, got)
		}
		if got := cspell.Number(read(c.s), false, false); got != c.part {
			t.Errorf("Number(%s, false, false) = %q", c.s, got)
		}
		if got := cspell.Number(read(c.s), false, true); got != c.plus {
			t.Errorf("Number(%s, false, true) = %q", c.s, got)
		}
	}
	if got := cspell.Number(read("7"), true, true); got != "+7" {
		t.Errorf("Number(7, true, true) = %q", got)
	}
	for _, n := range []api.Num{{Digits: "10", Exp: "0"}, {Exp: "0"}, {Digits: "1"}} {
		if cspell.Number(n, true, false) != "" || cspell.Number(n, false, true) != "" {
			t.Errorf("Number of %v", n)
		}
	}
}

func tok(kind int, text string) api.CTok { return api.CTok{Kind: kind, Text: text} }

func num(kind int, s, unit string, flag, sign bool) api.CTok {
	return api.CTok{Kind: kind, Num: read(s), Unit: unit, Flag: flag, Sign: sign}
}

func TestP1602Spell(t *testing.T) {
	cases := []struct {
		t    api.CTok
		want string
	}{
		{tok(api.CIdent, "a b"), `a\ b`},
		{tok(api.CIdent, "-1"), `-\31 `},
		{tok(api.CFunc, "a"), "a("},
		{tok(api.CFunc, "Url"), "Url("},
		{tok(api.CAt, "-"), `@\-`},
		{api.CTok{Kind: api.CHash, Text: "a", Flag: true}, "#a"},
		{api.CTok{Kind: api.CHash, Text: "1a", Flag: true}, `#\31 a`},
		{tok(api.CHash, "1a"), "#1a"},
		{tok(api.CHash, "-"), "#-"},
		{tok(api.CHash, "-1("), `#-1\(`},
		{tok(api.CString, `a"b`), `'a"b'`},
		{tok(api.CString, ""), `""`},
		{tok(api.CString, "a\r\n"), `"a\d \a"`},
		{tok(api.CUrl, ""), "url()"},
		{tok(api.CUrl, "a\"'()\\ b{é"), `url(a\"\'\(\)\\\ b{é)`},
		{tok(api.CUrl, "\x01\n\x1f\x7fa"), `url(\1 \a \1f \7f a)`},
		{num(api.CNumber, "1.50", "", false, true), "+1.5"},
		{num(api.CPercent, "50", "", true, false), "50%"},
		{num(api.CDim, "-5", "px", true, false), "-5px"},
		{num(api.CDim, "5", "e3", true, false), `5\65 3`},
		{num(api.CDim, "5", "E-3x", true, false), `5\45 -3x`},
		{num(api.CDim, ".5", "e 3", false, false), `.5e\ 3`},
		{num(api.CDim, "5", "e", true, false), "5e"},
		{num(api.CDim, "5", "e--3", true, false), "5e--3"},
		{num(api.CDim, "5", "e+3", true, false), `5e\+3`},
		{num(api.CDim, "5", "-", true, false), `5\-`},
		{num(api.CDim, "5", "3e", true, false), `5\33 e`},
		{num(api.CDim, "5", "%", true, false), `5\%`},
		{tok(api.CBadStr, `"a\"`), `"a\"`},
		{tok(api.CBadStr, "'"), "'"},
		{tok(api.CBadUrl, "u\\72l(a b)"), "u\\72l(a b)"},
		{tok(api.CBadUrl, "url(a b"), "url(a b"},
		{tok(api.CDelim, "/"), "/"},
		{tok(api.CDelim, `\`), `\`},
		{tok(api.CDelim, "\x01"), "\x01"},
		{tok(api.CSpace, " "), " "},
		{tok(api.CSpace, "\n"), "\n"},
		{tok(api.CComment, "/*a*"), "/*/*a**/"},
		{tok(api.CComment, "/"), "/*/*/"},
		{tok(api.CCdo, ""), "<!--"},
		{tok(api.CCdc, ""), "-->"},
		{tok(api.CColon, ""), ":"},
		{tok(api.CSemi, ""), ";"},
		{tok(api.CComma, ""), ","},
		{tok(api.COpen, ""), "{"},
		{tok(api.CClose, ""), "}"},
		{tok(api.CLeft, ""), "("},
		{tok(api.CRight, ""), ")"},
		{tok(api.CBegin, ""), "["},
		{tok(api.CEnd, ""), "]"},
	}
	for _, c := range cases {
		c.t.From = 7
		if got := cspell.Spell(c.t); got != c.want || !cspell.Right(c.t) {
			t.Errorf("Spell(%+v) = %q, want %q", c.t, got, c.want)
		}
		checkBack(t, c.t)
	}
}

// checkBack checks P1603 for a valid token.
func checkBack(t *testing.T, tok api.CTok) {
	t.Helper()
	s, want := cspell.Spell(tok), []api.CTok{tok}
	switch {
	case tok.Kind == api.CBadStr || tok.Kind == api.CDelim && tok.Text == `\`:
		s, want = s+"\n", append(want, api.CTok{Kind: api.CSpace, Text: "\n"})
	case tok.Kind == api.CFunc && strings.EqualFold(tok.Text, "url"):
		s, want = s+`""`, append(want, api.CTok{Kind: api.CString})
	}
	got := split(s)
	for i := range got {
		got[i].From = 0
	}
	want[0].From = 0
	if !slices.Equal(got, want) {
		t.Errorf("P1603: %q is read as %+v, want %+v", s, got, want)
	}
}

func TestP1602RightWrong(t *testing.T) {
	one := read("1")
	wrongs := []api.CTok{
		{}, {Kind: -1}, {Kind: 27}, {Kind: api.CColour}, {Kind: api.CColour, Text: "red"}, {Kind: api.CColon, From: -1},
		tok(api.CIdent, ""), tok(api.CFunc, ""), tok(api.CAt, ""), tok(api.CHash, ""),
		tok(api.CIdent, "a\x00"), tok(api.CIdent, "\xff"), tok(api.CString, "\xed\xa0\x80"), tok(api.CUrl, "\x00"),
		{Kind: api.CIdent, Text: "a", Unit: "b"}, {Kind: api.CIdent, Text: "a", Flag: true}, {Kind: api.CIdent, Text: "a", Sign: true},
		{Kind: api.CIdent, Text: "a", Num: one}, {Kind: api.CIdent, Text: "a", Colour: [4]int{0, 0, 0, 1}},
		tok(api.CHash, "a"), tok(api.CHash, "--"), {Kind: api.CHash, Text: "a", Flag: true, Sign: true}, {Kind: api.CHash, Flag: true},
		tok(api.CBadStr, ""), tok(api.CBadStr, `"a"`), tok(api.CBadStr, `a`), tok(api.CBadStr, "'a\n"), tok(api.CBadStr, "'a\r"), tok(api.CBadStr, `'a\`),
		tok(api.CBadUrl, ""), tok(api.CBadUrl, "url(a)"), tok(api.CBadUrl, "url(a b)c"), tok(api.CBadUrl, "url(a\fb)"), tok(api.CBadUrl, "URL('a')"),
		tok(api.CDelim, ""), tok(api.CDelim, "a"), tok(api.CDelim, "//"), tok(api.CDelim, ":"), tok(api.CDelim, " "), tok(api.CDelim, `\\`), tok(api.CDelim, "\n"),
		tok(api.CComment, "*/"), tok(api.CComment, "a*/b"), tok(api.CComment, "\r"), tok(api.CComment, "\f"),
		tok(api.CSpace, ""), tok(api.CSpace, "  "), tok(api.CSpace, "\t"), {Kind: api.CSpace, Text: " ", Flag: true},
		tok(api.CColon, ":"), {Kind: api.CSemi, Flag: true}, {Kind: api.COpen, Unit: "a"}, {Kind: api.CCdo, Num: one},
		{Kind: api.CNumber, Num: one, Flag: true, Text: "1"}, {Kind: api.CNumber, Num: one, Flag: true, Unit: "x"},
		{Kind: api.CNumber, Num: read("-1"), Flag: true, Sign: true}, {Kind: api.CNumber, Num: read("1.5"), Flag: true},
		{Kind: api.CNumber, Num: api.Num{Digits: "10", Exp: "0"}, Flag: true}, {Kind: api.CNumber, Num: read("1e20001"), Flag: true},
		{Kind: api.CPercent, Num: read("-0"), Sign: true}, {Kind: api.CPercent, Num: one, Flag: true, Unit: "%"},
		num(api.CDim, "1", "", true, false), num(api.CDim, "-1", "a", true, true), num(api.CDim, "1.5", "a", true, false), {Kind: api.CDim, Num: one, Flag: true, Unit: "a\x00"}, {Kind: api.CDim, Num: one, Flag: true, Unit: "a", Text: "b"},
	}
	for _, w := range wrongs {
		if cspell.Right(w) {
			t.Errorf("Right(%+v) is true", w)
		}
		if got := cspell.Spell(w); got != "" {
			t.Errorf("Spell(%+v) = %q", w, got)
		}
	}
}

func TestP1603OfSplit(t *testing.T) {
	const some = "a1-+.e#@\\/*\"'(){:;%< !>\n\xc3\xa9u"
	pieces := strings.Split("a|1|-|+|.|e|#|@|\\|/*|*/|\"|'|(|)|{|:|%|<!--| |\n|é|url(|\x7f|e5|0", "|")
	for _, a := range pieces {
		for _, b := range pieces {
			for _, c := range pieces {
				for _, tok := range split(a + b + c) {
					if !cspell.Right(tok) {
						t.Fatalf("Right(%+v) is false", tok)
					}
					checkBack(t, tok)
				}
			}
		}
	}
	for _, tok := range split(some) {
		checkBack(t, tok)
	}
}

func TestP1603Names(t *testing.T) {
	some := []string{"a", "e", "E", "0", "9", "-", " ", "\n", "\r", "\t", "\x01", "\x7f", `\`, `"`, "'", "(", ")", "é", "%", "+", "/", "*"}
	for _, a := range some {
		for _, b := range some {
			for _, c := range some {
				s := a + b + c
				for _, kind := range []int{api.CIdent, api.CFunc, api.CAt, api.CString, api.CUrl} {
					if !cspell.Right(tok(kind, s)) {
						t.Fatalf("Right of %d, %q is false", kind, s)
					}
					checkBack(t, tok(kind, s))
				}
				for _, n := range []string{"1", "-.5", "1e9"} {
					dim := num(api.CDim, n, s, n == "1", false)
					if !cspell.Right(dim) {
						t.Fatalf("Right of %+v is false", dim)
					}
					checkBack(t, dim)
				}
			}
		}
	}
}
