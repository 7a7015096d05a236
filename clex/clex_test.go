package clex_test

import (
	"slices"
	"strings"
	"testing"

	"abridger/api"
	"abridger/cinput"
	"abridger/clex"
	"abridger/number"
)

func split(s string) []api.CTok { return clex.Split(cinput.Runes([]byte(s))) }

func tok(kind int, text string) api.CTok { return api.CTok{Kind: kind, Text: text} }

func num(kind int, s, unit string, flag, sign bool) api.CTok {
	n, _ := number.Read(s)
	return api.CTok{Kind: kind, Num: n, Unit: unit, Flag: flag, Sign: sign}
}

// check holds the tokens of s, apart from From, against want.
func check(t *testing.T, s string, want ...api.CTok) {
	t.Helper()
	got := split(s)
	for i := range got {
		got[i].From = 0
	}
	if !slices.Equal(got, want) {
		t.Errorf("Split(%q) = %+v, want %+v", s, got, want)
	}
}

var space, line = tok(api.CSpace, " "), tok(api.CSpace, "\n")

func id(s string) api.CTok    { return tok(api.CIdent, s) }
func delim(s string) api.CTok { return tok(api.CDelim, s) }

func TestP1501Kinds(t *testing.T) {
	check(t, "")
	check(t, "/**/", tok(api.CComment, ""))
	check(t, "/* a\r\nb **/x", tok(api.CComment, " a\nb *"), id("x"))
	check(t, "/*/x", tok(api.CComment, "/x"))
	check(t, "/*a*", tok(api.CComment, "a*"))
	check(t, "/*", tok(api.CComment, ""))
	check(t, " \n\t", space)
	check(t, "\f  \t\r\n", line)
	check(t, "\t\n/**/\n ", space, tok(api.CComment, ""), line)
	check(t, "\va", delim("\v"), id("a"))
	check(t, "#a #1a #-1 #-a #\\31  #", api.CTok{Kind: api.CHash, Text: "a", Flag: true}, space, tok(api.CHash, "1a"), space,
		tok(api.CHash, "-1"), space, api.CTok{Kind: api.CHash, Text: "-a", Flag: true}, space,
		api.CTok{Kind: api.CHash, Text: "1", Flag: true}, space, delim("#"))
	check(t, "#-", tok(api.CHash, "-"))
	check(t, "##é#\\\n", delim("#"), api.CTok{Kind: api.CHash, Text: "é", Flag: true}, delim("#"), delim(`\`), line)
	check(t, "-->-->", tok(api.CCdc, ""), tok(api.CCdc, ""))
	check(t, "a-->", id("a--"), delim(">"))
	check(t, "--->", id("---"), delim(">"))
	check(t, "<!--<!-", tok(api.CCdo, ""), delim("<"), delim("!"), delim("-"))
	check(t, "<!--x", tok(api.CCdo, ""), id("x"))
	check(t, "@a @-b @1 @--", tok(api.CAt, "a"), space, tok(api.CAt, "-b"), space, delim("@"), num(api.CNumber, "1", "", true, false),
		space, tok(api.CAt, "--"))
	check(t, "@\\61 b", tok(api.CAt, "ab"))
	check(t, "()[]{},:;", tok(api.CLeft, ""), tok(api.CRight, ""), tok(api.CBegin, ""), tok(api.CEnd, ""), tok(api.COpen, ""),
		tok(api.CClose, ""), tok(api.CComma, ""), tok(api.CColon, ""), tok(api.CSemi, ""))
	check(t, "/+-.*=\x00\x01%", delim("/"), delim("+"), delim("-"), delim("."), delim("*"), delim("="), id("\ufffd"), delim("\x01"), delim("%"))
	check(t, `\`, id("\ufffd"))
}

func TestP1501From(t *testing.T) {
	l := split("é/*x*/ \r\n12px'a'")
	var froms []int
	for _, tok := range l {
		froms = append(froms, tok.From)
	}
	if !slices.Equal(froms, []int{0, 2, 7, 10, 14}) {
		t.Errorf("From: %v", froms)
	}
	l = clex.Split([]api.Rune{{R: 'a', At: 70}, {R: ':', At: -3}})
	if len(l) != 2 || l[0].From != 70 || l[1].From != -3 {
		t.Errorf("From: %v", l)
	}
}

func TestP1502Strings(t *testing.T) {
	check(t, `"a'b"'c"d'`, tok(api.CString, "a'b"), tok(api.CString, `c"d`))
	check(t, `"`, tok(api.CString, ""))
	check(t, `'abc`, tok(api.CString, "abc"))
	check(t, `"abc\`, tok(api.CString, "abc"))
	check(t, `"\`, tok(api.CString, ""))
	check(t, `"a\"b\61 c\\"`, tok(api.CString, `a"bac\`))
	check(t, "\"a\\\nb\\\r\nc\"", tok(api.CString, "abc"))
	check(t, "\"a\nb\"", tok(api.CBadStr, `"a`), line, id("b"), tok(api.CString, ""))
	check(t, "'a\\61\nb'", tok(api.CString, "aab")) // the line break belongs to the escape
	check(t, "'a\\61\n\nb'", tok(api.CBadStr, "'a\\61\n"), line, id("b"), tok(api.CString, ""))
	check(t, "'\\\n\\'\x00\n", tok(api.CBadStr, "'\\\n\\'\ufffd"), line)
	check(t, "'\n'\n", tok(api.CBadStr, "'"), line, tok(api.CBadStr, "'"), line)
	check(t, "'\\\\\n", tok(api.CBadStr, `'\\`), line)
	check(t, `'\27 '`, tok(api.CString, "'"))
}

func TestP1502Numbers(t *testing.T) {
	whole := func(s string) api.CTok { return num(api.CNumber, s, "", true, false) }
	part := func(s string) api.CTok { return num(api.CNumber, s, "", false, false) }
	check(t, "1 007 -5", whole("1"), space, whole("7"), space, whole("-5"))
	check(t, "+5+.5", num(api.CNumber, "5", "", true, true), num(api.CNumber, ".5", "", false, true))
	check(t, "1.5.5", part("1.5"), part(".5"))
	check(t, "9.9e+99-0", part("9.9e99"), num(api.CNumber, "-0", "", true, false))
	check(t, "1..5", whole("1"), delim("."), part(".5"))
	check(t, "1.", whole("1"), delim("."))
	check(t, ".5.a", part(".5"), delim("."), id("a"))
	check(t, "-.5e-3", part("-.5e-3"))
	check(t, "1e3 1E+3", part("1e3"), space, part("1e3"))
	check(t, "1e", num(api.CDim, "1", "e", true, false))
	check(t, "1e-", num(api.CDim, "1", "e-", true, false))
	check(t, "1e+", num(api.CDim, "1", "e", true, false), delim("+"))
	check(t, "1e3e3", num(api.CDim, "1e3", "e3", false, false))
	check(t, "1e3.5", part("1e3"), part(".5"))
	check(t, "5px -5--x 1-1", num(api.CDim, "5", "px", true, false), space, num(api.CDim, "-5", "--x", true, false), space,
		whole("1"), whole("-1"))
	check(t, "1\\65 3", num(api.CDim, "1", "e3", true, false))
	check(t, "1\\\n", whole("1"), delim(`\`), line)
	check(t, "5% +.5%5 %", num(api.CPercent, "5", "", true, false), space, num(api.CPercent, ".5", "", false, true), whole("5"), space, delim("%"))
	check(t, "--5 +-5 -+5", id("--5"), space, delim("+"), whole("-5"), space, delim("-"), num(api.CNumber, "5", "", true, true))
	check(t, "-0 1-->", num(api.CNumber, "-0", "", true, false), space, num(api.CDim, "1", "--", true, false), delim(">"))
	check(t, "1é", num(api.CDim, "1", "é", true, false))
}

func TestP1502Names(t *testing.T) {
	check(t, "a b(c d (", id("a"), space, tok(api.CFunc, "b"), id("c"), space, id("d"), space, tok(api.CLeft, ""))
	check(t, "-a --x -\\61 é", id("-a"), space, id("--x"), space, id("-aé"))
	check(t, "a\\\nb", id("a"), delim(`\`), line, id("b"))
	check(t, "url url-a(x)", id("url"), space, tok(api.CFunc, "url-a"), id("x"), tok(api.CRight, ""))
	check(t, "uRl( \n'a')", tok(api.CFunc, "uRl"), space, tok(api.CString, "a"), tok(api.CRight, ""))
	check(t, "url(\"a\")", tok(api.CFunc, "url"), tok(api.CString, "a"), tok(api.CRight, ""))
	check(t, "url(/**/'a')", tok(api.CBadUrl, "url(/**/'a')"))
}

func TestP1503Urls(t *testing.T) {
	check(t, "url(a.b)c", tok(api.CUrl, "a.b"), id("c"))
	check(t, "URL( \n a\t )", tok(api.CUrl, "a"))
	check(t, "u\\72l(a)", tok(api.CUrl, "a"))
	check(t, "url()url( )url(", tok(api.CUrl, ""), tok(api.CUrl, ""), tok(api.CUrl, ""))
	check(t, "url(a \n", tok(api.CUrl, "a"))
	check(t, "url(a", tok(api.CUrl, "a"))
	check(t, "url(a\\)\\20 b\\\")", tok(api.CUrl, `a) b"`))
	check(t, "url(\\29  )", tok(api.CUrl, ")"))
	check(t, "url(a\\", tok(api.CUrl, "a\ufffd"))
	check(t, "url(é\x00)", tok(api.CUrl, "é\ufffd"))
	check(t, "url(a b)c", tok(api.CBadUrl, "url(a b)"), id("c"))
	check(t, "url(a \\62)c", tok(api.CBadUrl, "url(a \\62)"), id("c"))
	for _, bad := range []string{"\"", "'", "(", "\x01", "\b", "\v", "\x0e", "\x1f", "\x7f", "\\\n"} {
		check(t, "U\\52l(a"+bad+"b\\)c)d", tok(api.CBadUrl, "U\\52l(a"+bad+"b\\)c)"), id("d"))
	}
	check(t, "url(a'", tok(api.CBadUrl, "url(a'"))
	check(t, "url(('{;\n", tok(api.CBadUrl, "url(('{;\n"))
	check(t, "url(a'\\", tok(api.CBadUrl, `url(a'\`))
	check(t, "url(a{};,[]:!)", tok(api.CUrl, "a{};,[]:!"))
}

func TestP1503OtherCodePoints(t *testing.T) {
	url := func(r int) int {
		l := append(cinput.Runes([]byte("url(")), api.Rune{R: r}, api.Rune{R: ')'})
		return clex.Split(l)[0].Kind
	}
	for _, r := range []int{-1, 0, 8, 11, 14, 31, 127} {
		if url(r) != api.CBadUrl {
			t.Errorf("%d is allowed in a url", r)
		}
	}
	for _, r := range []int{9, 10, 12, 13, 32, 33, 126, 128, 0x10ffff, 1 << 40} {
		if url(r) != api.CUrl {
			t.Errorf("%d is not allowed in a url", r)
		}
	}
}

func TestP1504AnyCodePoints(t *testing.T) {
	some := []int{-1, 0, 9, 10, 12, 13, ' ', '"', '\'', '\\', '(', ')', '-', '+', '.', '1', 'e', 'u', '/', '*', '#', '@', '<', '!', 0x80, 1 << 40}
	for _, a := range some {
		for _, b := range some {
			for _, c := range some {
				l := []api.Rune{{R: a, At: 1}, {R: b, At: 2}, {R: c, At: 3}}
				first := clex.Split(l)
				if !slices.Equal(first, clex.Split(l)) || l[0].R != a || l[1].R != b || l[2].R != c {
					t.Fatal("Split changes its argument or answers differently")
				}
				if len(first) == 0 || len(first) > 3 {
					t.Fatalf("Split(%v) = %v", l, first)
				}
			}
		}
	}
}

func TestP1501Long(t *testing.T) {
	check(t, "/*"+strings.Repeat("x", 20000), tok(api.CComment, strings.Repeat("x", 20000)))
}
