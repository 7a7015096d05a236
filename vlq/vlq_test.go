package vlq_test

import (
	"math"
	"testing"

	"abridger/vlq"
)

func TestP301Put(t *testing.T) {
	cases := []struct {
		s    string
		n    int
		want string
	}{
		{"", 0, "A"},
		{"", 1, "C"},
		{"", -1, "D"},
		{"", 15, "e"},
		{"", 16, "gB"},
		{"", -16, "hB"},
		{"", 511, "+f"},
		{"", 512, "ggB"},
		{"AC", 1, "ACC"},
		{"", 1 << 40, "ggggggggC"},
		{"", -(1 << 40), "hgggggggC"},
		{"x", 1<<40 + 1, "x"},
		{"x", -(1 << 40) - 1, "x"},
		{"x", math.MaxInt, "x"},
		{"x", math.MinInt, "x"},
	}
	for _, c := range cases {
		if got := vlq.Put(c.s, c.n); got != c.want {
			t.Errorf("Put(%q, %d) = %q", c.s, c.n, got)
		}
	}
}

func TestP301Get(t *testing.T) {
	cases := []struct {
		s        string
		at       int
		n, after int
		ok       bool
	}{
		{"A", 0, 0, 1, true},
		{"xgB,", 1, 16, 3, true},
		{"hB", 0, -16, 2, true},
		{"/////////////", 0, 0, 0, false},
		{"+f", 0, 511, 2, true},
		{"B", 0, 0, 0, false},   // negative zero
		{"gA", 0, 0, 0, false},  // more digits than necessary
		{"ggA", 0, 0, 0, false}, // the same
		{"hA", 0, 0, 0, false},  // negative zero, too long
		{"g", 0, 0, 0, false},   // no end
		{"g,", 0, 0, 0, false},  // another letter
		{"", 0, 0, 0, false},    // nothing
		{"A", 1, 0, 0, false},   // nothing
		{"A", -1, 0, 0, false},  // nothing
		{"A", math.MinInt, 0, 0, false},
		{"A", math.MaxInt, 0, 0, false},
		{"ggggggggC", 0, 1 << 40, 9, true},
		{"hggggggggC", 0, 0, 0, false}, // too long
		{"hggggggggC", 1, 1 << 40, 10, true},
		{"hggggggC", 0, -(1 << 35), 8, true},
		{"igggggggC", 0, 0, 0, false}, // 2^40 + 1
		{"jgggggggC", 0, 0, 0, false}, // -(2^40 + 1)
		{"gggggggge", 0, 0, 0, false}, // out of range
	}
	for _, c := range cases {
		n, after, ok := vlq.Get(c.s, c.at)
		if n != c.n || after != c.after || ok != c.ok {
			t.Errorf("Get(%q, %d) = %d, %d, %v", c.s, c.at, n, after, ok)
		}
	}
}

func TestP301GetOfPut(t *testing.T) {
	for n := 1; n <= 1<<40; n = n*3/2 + 1 {
		for _, m := range []int{n, -n} {
			s := vlq.Put("+", m)
			if got, after, ok := vlq.Get(s, 1); got != m || after != len(s) || !ok {
				t.Errorf("Get(%q, 1) = %d, %d, %v, want %d", s, got, after, ok, m)
			}
		}
	}
}

func TestP301OneEncodingEach(t *testing.T) {
	// Whatever Get accepts, Put writes the same way.
	const some = "ABCDEfgh/+0, "
	for i := range len(some) * len(some) * len(some) {
		s := string([]byte{some[i%len(some)], some[i/len(some)%len(some)], some[i/len(some)/len(some)]})
		if n, after, ok := vlq.Get(s, 0); ok && vlq.Put("", n) != s[:after] {
			t.Errorf("Get(%q, 0) = %d, %d", s, n, after)
		}
	}
}

func TestP302SameAnswers(t *testing.T) {
	if vlq.Put("a", 5) != vlq.Put("a", 5) {
		t.Error("Put answers differently")
	}
}
