package quote_test

import (
	"testing"

	"abridger/quote"
)

func TestText(t *testing.T) {
	cases := []struct {
		s     string
		quote byte
		want  string
	}{
		{"", '"', `""`},
		{"", '\'', `''`},
		{`a"b'c\`, '"', `"a\"b'c\\"`},
		{`a"b'c\`, '\'', `'a"b\'c\\'`},
		{"\ng\fz\r", '"', `"\ag\cz\d"`},
		{"\na\fF\r0", '"', `"\a a\c F\d 0"`},
		{"\n \f\t\r\n\f\r", '"', "\"\\a  \\c \t\\d \\a \\c \\d\""},
		{"\n\x00\xff\n\xe9\n\u00e9", '"', "\"\\a\ufffd\ufffd\\a\ufffd\\aé\""},
		{"\x01\x1f\x7f\t", '\'', "'\x01\x1f\x7f\t'"},
		{"\n'", '\'', `'\a\''`},
	}
	for _, c := range cases {
		if got := quote.Text(c.s, c.quote); got != c.want {
			t.Errorf("Text(%q, %c) = %q, want %q", c.s, c.quote, got, c.want)
		}
	}
}
