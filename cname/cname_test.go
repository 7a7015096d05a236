package cname_test

import (
	"testing"

	"abridger/api"
	"abridger/cinput"
	"abridger/cname"
)

func runes(s string) []api.Rune { return cinput.Runes([]byte(s)) }

func TestP1401StartAndIn(t *testing.T) {
	for _, r := range []int{'a', 'z', 'A', 'Z', '_', 0x80, 0xe9, 0xfffd, 0x10ffff, 1 << 40} {
		if !cname.Start(r) || !cname.In(r) {
			t.Errorf("Start or In of %x is false", r)
		}
	}
	for _, r := range []int{'0', '9', '-'} {
		if cname.Start(r) || !cname.In(r) {
			t.Errorf("Start of %c is true, or In is false", r)
		}
	}
	for _, r := range []int{-1, 0, 10, 31, ' ', '/', ':', '@', '[', '`', '{', '\\', '.', '+', 0x7f} {
		if cname.Start(r) || cname.In(r) {
			t.Errorf("Start or In of %x is true", r)
		}
	}
}

func TestP1401Begins(t *testing.T) {
	for _, s := range []string{"a", "_", "é", "-a", "--", "-é", "--1", `\61`, `\`, `-\`, `-\1`, `\-`, "-_", "\x00", "a("} {
		if !cname.Begins(runes(s), 0) {
			t.Errorf("Begins of %q is false", s)
		}
	}
	for _, s := range []string{"", "-", "-1", "1", "1a", "+a", " a", "\\\n", "-\\\n", "- a", "(", "-(", ".a"} {
		if cname.Begins(runes(s), 0) {
			t.Errorf("Begins of %q is true", s)
		}
	}
	for at, want := range map[int]bool{-1: false, 0: false, 1: true, 2: true, 3: false, 4: false, 1<<63 - 1: false, -1 << 63: false} {
		if cname.Begins(runes("1-a"), at) != want {
			t.Errorf("Begins at %d is %v", at, !want)
		}
	}
}

func TestP1401Take(t *testing.T) {
	cases := []struct {
		s    string
		at   int
		name string
		end  int
	}{
		{"abc(", 0, "abc", 3},
		{"abc(", 1, "bc", 3},
		{"abc(", -5, "abc", 3},
		{"abc(", 3, "", 3},
		{"abc(", 4, "", 4},
		{"abc(", 99, "", 4},
		{"", 0, "", 0},
		{"-1_é-- x", 0, "-1_é--", 6},
		{`a\(b\29 c)`, 0, "a(b)c", 9},
		{`\61\62  c`, 0, "ab", 7},
		{`a\`, 0, "a\ufffd", 2},
		{"a\\\nb", 0, "a", 1},
		{"\\a\nb", 0, "\nb", 4},
		{`\0\110000\d800 x`, 0, "\ufffd\ufffd\ufffdx", 16},
		{`\0000611`, 0, "a1", 8},
		{"a\x00\xff", 0, "a\ufffd\ufffd", 3},
		{`\g\\`, 0, `g\`, 4},
	}
	for _, c := range cases {
		if name, end := cname.Take(runes(c.s), c.at); name != c.name || end != c.end {
			t.Errorf("Take(%q, %d) = %q, %d", c.s, c.at, name, end)
		}
	}
}

func TestP1402Spell(t *testing.T) {
	cases := []struct{ s, name, rest string }{
		{"", "", ""},
		{"a b", `a\ b`, `a\ b`},
		{"1", `\31 `, "1"},
		{"1a", `\31 a`, "1a"},
		{"12", `\31 2`, "12"},
		{"a1", "a1", "a1"},
		{"-", `\-`, "-"},
		{"-1", `-\31 `, "-1"},
		{"-12", `-\31 2`, "-12"},
		{"--1", "--1", "--1"},
		{"--", "--", "--"},
		{"-a", "-a", "-a"},
		{"\x01\n\x1f\x7f", `\1 \a \1f \7f `, `\1 \a \1f \7f `},
		{"\x00a\xffb", "\ufffda\ufffdb", "\ufffda\ufffdb"},
		{"é€😀\u0080", "é€😀\u0080", "é€😀\u0080"},
		{`a\b"c'd(e)f.g`, `a\\b\"c\'d\(e\)f\.g`, `a\\b\"c\'d\(e\)f\.g`},
		{"_A-9", "_A-9", "_A-9"},
		{" ", `\ `, `\ `},
		{"~", `\~`, `\~`},
	}
	for _, c := range cases {
		if got := cname.Spell(c.s); got != c.name {
			t.Errorf("Spell(%q) = %q, want %q", c.s, got, c.name)
		}
		if got := cname.SpellRest(c.s); got != c.rest {
			t.Errorf("SpellRest(%q) = %q, want %q", c.s, got, c.rest)
		}
	}
}

func TestP1402TakeOfSpell(t *testing.T) {
	some := []string{"a", "f", "Z", "0", "9", "-", "_", " ", "\n", "\t", "\x01", "\x7f", `\`, `"`, "(", "é", "\r", "\f", "😀"}
	for _, a := range some {
		for _, b := range some {
			for _, c := range some {
				s := a + b + c
				spelling := runes(cname.Spell(s))
				if name, end := cname.Take(spelling, 0); name != s || end != len(spelling) || !cname.Begins(spelling, 0) {
					t.Fatalf("Take of Spell of %q: %q, %d", s, name, end)
				}
			}
		}
	}
}

func TestP1403Text(t *testing.T) {
	cases := []struct{ s, want string }{
		{"", `""`},
		{"a'b", `"a'b"`},
		{`a"b`, `'a"b'`},
		{`a"'b`, `"a\"'b"`},
		{`"'"`, `'"\'"'`},
		{`\`, `"\\"`},
		{"\n", `"\a"`},
		{"\nb\fg\r ", `"\a b\cg\d  "`}, // the space of the number, and that of the text
		{"\x00\xff\x01é", "\"\ufffd\ufffd\x01é\""},
	}
	for _, c := range cases {
		if got := cname.Text(c.s); got != c.want {
			t.Errorf("Text(%q) = %q, want %q", c.s, got, c.want)
		}
	}
}

func TestP1404Arguments(t *testing.T) {
	l := runes(`a\62 c`)
	first, _ := cname.Take(l, 0)
	second, _ := cname.Take(l, 0)
	if first != second || cinput.Text(l) != `a\62 c` {
		t.Error("Take changes its argument or answers differently")
	}
}
