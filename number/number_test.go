package number_test

import (
	"slices"
	"strings"
	"testing"

	"abridger/api"
	"abridger/number"
)

func TestP501Read(t *testing.T) {
	cases := []struct {
		s           string
		neg         bool
		digits, exp string
	}{
		{"0", false, "", ""},
		{"-0", true, "", ""},
		{"+0.00e-99", false, "", ""},
		{"-.0E5", true, "", ""},
		{"1", false, "1", "0"},
		{"+1", false, "1", "0"},
		{"-1", true, "1", "0"},
		{"007", false, "7", "0"},
		{"1.50", false, "15", "-1"},
		{".5", false, "5", "-1"},
		{"-.05", true, "5", "-2"},
		{"1500", false, "15", "2"},
		{"00.001200", false, "12", "-4"},
		{"1e3", false, "1", "3"},
		{"1E+3", false, "1", "3"},
		{"1e-3", false, "1", "-3"},
		{"1.5e-007", false, "15", "-8"},
		{"10e-1", false, "1", "0"},
		{"100.0", false, "1", "2"},
		{"1e000", false, "1", "0"},
		{"1e-0", false, "1", "0"},
		{"1e99999999999999999999", false, "1", "99999999999999999999"},
		{"1.5e-99999999999999999999", false, "15", "-100000000000000000000"},
		{"123456789012345678901234567890", false, "12345678901234567890123456789", "1"},
	}
	for _, c := range cases {
		want := api.Num{Neg: c.neg, Digits: c.digits, Exp: c.exp}
		got, ok := number.Read(c.s)
		if got != want || !ok {
			t.Errorf("Read(%q) = %v, %v", c.s, got, ok)
		}
		if !number.Right(got) {
			t.Errorf("Right(%v) is false", got)
		}
	}
}

func TestP501ReadWrong(t *testing.T) {
	wrongs := []string{
		"", "+", "-", ".", "+.", "1.", "1.e5", ".e5", "e5", "1e", "1e+", "1e-", "--1", "+-1", "1e5.", "1e5.5",
		" 1", "1 ", "1x", "0x1", "1_0", "1,5", "1..5", "1.5.5", "1e5e5", "Inf", "NaN", "١",
	}
	for _, s := range wrongs {
		if got, ok := number.Read(s); got != (api.Num{}) || ok {
			t.Errorf("Read(%q) = %v, %v", s, got, ok)
		}
	}
}

func TestP501RightWrong(t *testing.T) {
	wrongs := []api.Num{
		{Exp: "0"}, {Digits: "10", Exp: "0"}, {Digits: "01", Exp: "0"}, {Digits: "0", Exp: "0"}, {Digits: "1"},
		{Digits: "1", Exp: "-0"}, {Digits: "1", Exp: "07"}, {Digits: "1a", Exp: "0"}, {Digits: "-1", Exp: "0"},
		{Digits: "1", Exp: "+1"}, {Digits: "1.5", Exp: "0"},
	}
	for _, n := range wrongs {
		if number.Right(n) {
			t.Errorf("Right(%v) is true", n)
		}
		if got := number.Plain(n); len(got) != 0 {
			t.Errorf("Plain(%v) = %q", n, got)
		}
		if got := number.Short(n); got != "" {
			t.Errorf("Short(%v) = %q", n, got)
		}
	}
	if !number.Right(api.Num{Neg: true}) || !number.Right(api.Num{Digits: "101", Exp: "-12"}) {
		t.Error("Right is false for a number")
	}
}

func TestP502Plain(t *testing.T) {
	zeros := strings.Repeat("0", api.MaxZeros)
	cases := []struct {
		s    string
		want []string
	}{
		{"0", []string{"0"}},
		{"-0", []string{"-0"}},
		{"5", []string{"5", "5e0"}},
		{"-5", []string{"-5", "-5e0"}},
		{"15", []string{"15", "15e0", "1.5e1"}},
		{"1e3", []string{"1000", "1e3"}},
		{"1.5", []string{"1.5", "15e-1"}},
		{"123e-2", []string{"1.23", "123e-2"}},
		{"123e-1", []string{"12.3", "123e-1", "1.23e1"}},
		{"-12e-2", []string{"-0.12", "-12e-2", "-1.2e-1"}},
		{"12e-4", []string{"0.0012", "12e-4", "1.2e-3"}},
		{"1e20", []string{"1" + zeros, "1e20"}},
		{"1e21", []string{"1e21"}},
		{"12e-22", []string{"0." + zeros + "12", "12e-22", "1.2e-21"}},
		{"12e-23", []string{"12e-23", "1.2e-22"}},
		{"12e1000001", []string{"12e1000001", "1.2e1000002"}},
		{"12e-1000001", []string{"12e-1000001", "1.2e-1000000"}},
	}
	for _, c := range cases {
		n, ok := number.Read(c.s)
		if got := number.Plain(n); !slices.Equal(got, c.want) || !ok {
			t.Errorf("Plain of %s = %q", c.s, got)
		}
	}
}

func TestP502PlainLong(t *testing.T) {
	// decimal.Int decides, even where the dot would fall within the digits.
	d := strings.Repeat("1", 1000003)
	if got := number.Plain(api.Num{Digits: d, Exp: "-1000000"}); len(got) != 3 || got[0] != "111."+d[3:] {
		t.Errorf("%d texts", len(got))
	}
	if got := number.Plain(api.Num{Digits: d, Exp: "-1000001"}); len(got) != 2 || got[0] != d+"e-1000001" {
		t.Errorf("%d texts", len(got))
	}
}

func TestP502Short(t *testing.T) {
	cases := map[string]string{
		"0": "0", "-0.0": "-0", "1e3": "1e3", "100": "100", "1000": "1e3", "0.5": "0.5", "0.001": "1e-3",
		"0.01": "0.01", "1.50": "1.5", "150e-2": "1.5", "-12000": "-12e3", "1234567e20": "1234567e20",
		"1234567e-20": "1234567e-20", "15e8": "15e8", "5e0": "5",
	}
	for s, want := range cases {
		n, _ := number.Read(s)
		if got := number.Short(n); got != want {
			t.Errorf("Short of %s = %q", s, got)
		}
	}
}

func TestP503ReadOfPlain(t *testing.T) {
	for _, d := range []string{"1", "12", "101", "99999999999999999999999999"} {
		for _, e := range []string{"-99999999999999", "-45", "-22", "-21", "-2", "-1", "0", "1", "20", "21", "99999999999999"} {
			for _, neg := range []bool{false, true} {
				n := api.Num{Neg: neg, Digits: d, Exp: e}
				for _, s := range number.Plain(n) {
					if got, ok := number.Read(s); got != n || !ok {
						t.Errorf("Read(%q) = %v, %v, want %v", s, got, ok, n)
					}
				}
			}
		}
	}
}
