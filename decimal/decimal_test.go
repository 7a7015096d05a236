package decimal_test

import (
	"math/big"
	"strconv"
	"strings"
	"testing"

	"abridger/decimal"
)

var rights = []string{
	"0", "1", "-1", "9", "-9", "10", "-10", "99", "-99", "100", "101", "-101", "12345678901234567890",
	"-12345678901234567890", "12345678901234567889", "99999999999999999999", "1000000", "-1000000", "1000001",
}

var wrongs = []string{
	"", "-", "-0", "00", "07", "-07", "+1", "1.0", "1e3", " 1", "1 ", "--1", "1-", "a", "١", "1\x00", "/", ":",
}

func TestP401Right(t *testing.T) {
	for _, s := range rights {
		if !decimal.Right(s) {
			t.Errorf("Right(%q) is false", s)
		}
	}
	for _, s := range wrongs {
		if decimal.Right(s) {
			t.Errorf("Right(%q) is true", s)
		}
	}
}

func TestP401AddAndLess(t *testing.T) {
	for _, a := range rights {
		for _, b := range rights {
			x, _ := new(big.Int).SetString(a, 10)
			y, _ := new(big.Int).SetString(b, 10)
			want := new(big.Int).Add(x, y).String()
			if got, ok := decimal.Add(a, b); got != want || !ok {
				t.Errorf("Add(%s, %s) = %q, %v", a, b, got, ok)
			}
			if got := decimal.Less(a, b); got != (x.Cmp(y) < 0) {
				t.Errorf("Less(%s, %s) = %v", a, b, got)
			}
		}
	}
}

func TestP401AddLong(t *testing.T) {
	long := strings.Repeat("9", 5000)
	if got, ok := decimal.Add(long, "1"); got != "1"+strings.Repeat("0", 5000) || !ok {
		t.Error("Add of a long number and 1")
	}
	if got, ok := decimal.Add("-1"+strings.Repeat("0", 5000), "1"); got != "-"+long || !ok {
		t.Error("Add of a long negative number and 1")
	}
	if got, ok := decimal.Add(long, "-"+long); got != "0" || !ok {
		t.Error("Add of a number and its negative")
	}
}

func TestP401WrongArguments(t *testing.T) {
	for _, s := range wrongs {
		if got, ok := decimal.Add(s, "1"); got != "" || ok {
			t.Errorf("Add(%q, 1) = %q, %v", s, got, ok)
		}
		if got, ok := decimal.Add("1", s); got != "" || ok {
			t.Errorf("Add(1, %q) = %q, %v", s, got, ok)
		}
		if decimal.Less(s, "1") || decimal.Less("-1", s) {
			t.Errorf("Less with %q is true", s)
		}
		if n, ok := decimal.Int(s); n != 0 || ok {
			t.Errorf("Int(%q) = %d, %v", s, n, ok)
		}
	}
}

func TestP401Int(t *testing.T) {
	for _, n := range []int{0, 1, -1, 42, 999999, -999999, 1000000, -1000000} {
		if got, ok := decimal.Int(strconv.Itoa(n)); got != n || !ok {
			t.Errorf("Int(%d) = %d, %v", n, got, ok)
		}
	}
	for _, s := range []string{"1000001", "-1000001", "9999999", "-9999999", "99999999999999999999", "0000001"} {
		if got, ok := decimal.Int(s); got != 0 || ok {
			t.Errorf("Int(%s) = %d, %v", s, got, ok)
		}
	}
}

func TestP402SameAnswers(t *testing.T) {
	a, _ := decimal.Add("99", "1")
	b, _ := decimal.Add("99", "1")
	if a != "100" || b != "100" {
		t.Errorf("Add answers %q and %q", a, b)
	}
}
