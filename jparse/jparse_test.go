package jparse_test

import (
	"reflect"
	"slices"
	"strings"
	"testing"

	"abridger/api"
	"abridger/jparse"
)

func parse(t *testing.T, s string) api.Value {
	t.Helper()
	v, fault := jparse.Parse([]byte(s), api.MaxDepth)
	if fault != (api.Fault{}) {
		t.Errorf("Parse(%q): %v", s, fault)
	}
	return v
}

func TestP701Values(t *testing.T) {
	one := api.Num{Digits: "1", Exp: "0"}
	cases := []struct {
		s    string
		want api.Value
	}{
		{" true ", api.Value{Kind: api.VTrue, From: 1}},
		{"false", api.Value{Kind: api.VFalse}},
		{"\nnull", api.Value{Kind: api.VNull, From: 1}},
		{"-1.50", api.Value{Kind: api.VNumber, Num: api.Num{Neg: true, Digits: "15", Exp: "-1"}}},
		{` "aé"`, api.Value{Kind: api.VText, Text: []int{'a', 0xe9}, From: 1}},
		{"[ ]", api.Value{Kind: api.VArray, From: 0, To: 2}},
		{" {} ", api.Value{Kind: api.VObject, From: 1, To: 2}},
		{"[1, true]", api.Value{Kind: api.VArray, From: 0, To: 8, Marks: []int{2}, Items: []api.Value{
			{Kind: api.VNumber, Num: one, From: 1},
			{Kind: api.VTrue, From: 4},
		}}},
		{`{"a":1,"a" : [] }`, api.Value{Kind: api.VObject, From: 0, To: 16, Marks: []int{4, 6, 11}, Items: []api.Value{
			{Kind: api.VText, Text: []int{'a'}, From: 1},
			{Kind: api.VNumber, Num: one, From: 5},
			{Kind: api.VText, Text: []int{'a'}, From: 7},
			{Kind: api.VArray, From: 13, To: 14},
		}}},
	}
	for _, c := range cases {
		if got := parse(t, c.s); !reflect.DeepEqual(got, c.want) {
			t.Errorf("Parse(%q) = %+v", c.s, got)
		}
	}
}

// singles calls f with all texts, numbers and words in v.
func singles(v api.Value, f func(api.Value)) {
	if v.Kind != api.VObject && v.Kind != api.VArray {
		f(v)
	}
	for _, item := range v.Items {
		singles(item, f)
	}
}

func TestP701OnlyListsHaveTo(t *testing.T) {
	texts := []string{
		" 1 ", "  -0.5e3", ` "a"`, ` ""`, "\n true", " false", "  null", ` [ 1, "a", true, false, null ]`,
		` { "a" : "b", "c" : 2, "d" : [ null, { "" : false } ] }`,
	}
	for _, s := range texts {
		singles(parse(t, s), func(v api.Value) {
			if v.From == 0 || v.To != 0 || len(v.Marks) > 0 {
				t.Errorf("Parse(%q) contains %+v", s, v)
			}
		})
	}
}

func TestP701Faults(t *testing.T) {
	cases := []struct {
		s     string
		depth int
		err   api.Errno
		at    int
	}{
		{"", 60, api.ErrSyntax, 0},
		{"  ", 60, api.ErrSyntax, 2},
		{"1 2", 60, api.ErrSyntax, 2},
		{"[1,]", 60, api.ErrSyntax, 3},
		{"[,1]", 60, api.ErrSyntax, 1},
		{"[1 2]", 60, api.ErrSyntax, 3},
		{"[1}", 60, api.ErrSyntax, 2},
		{"[1", 60, api.ErrSyntax, 2},
		{"[1, ", 60, api.ErrSyntax, 4},
		{"[", 60, api.ErrSyntax, 1},
		{"]", 60, api.ErrSyntax, 0},
		{"{1:2}", 60, api.ErrSyntax, 1},
		{`{"a"}`, 60, api.ErrSyntax, 4},
		{`{"a":}`, 60, api.ErrSyntax, 5},
		{`{"a":1,}`, 60, api.ErrSyntax, 7},
		{`{"a" 1}`, 60, api.ErrSyntax, 5},
		{`{"a":1 "b":2}`, 60, api.ErrSyntax, 7},
		{`{"a":1]`, 60, api.ErrSyntax, 6},
		{`{"a":1,[`, 60, api.ErrSyntax, 7},
		{`{,}`, 60, api.ErrSyntax, 1},
		{`{`, 60, api.ErrSyntax, 1},
		{":", 60, api.ErrSyntax, 0},
		{"[}\x00", 60, api.ErrSyntax, 2}, // the fault of jlex comes first
		{"[}\xff", 60, api.ErrUtf, 2},
		{"[]", 0, api.ErrDeep, 0},
		{"{}", -5, api.ErrDeep, 0},
		{"[1,{}]", 1, api.ErrDeep, 3},
		{"[[]", 1, api.ErrDeep, 1}, // further left than the missing end
		{"[}[[", 1, api.ErrSyntax, 1},
		{`{"a":{}}`, 1, api.ErrDeep, 5},
		{strings.Repeat("[", 61), 1000, api.ErrDeep, 60},
		{strings.Repeat(" ", api.MaxBytes+1), 60, api.ErrLong, api.MaxBytes},
	}
	for _, c := range cases {
		v, fault := jparse.Parse([]byte(c.s), c.depth)
		if fault != (api.Fault{Err: c.err, At: c.at}) || !reflect.DeepEqual(v, api.Value{}) {
			t.Errorf("Parse(%q, %d) = %v, %v", c.s, c.depth, v, fault)
		}
	}
}

func TestP701Depth(t *testing.T) {
	for _, c := range []struct {
		s     string
		depth int
	}{
		{"1", 0}, {"[]", 1}, {"[{},[],1]", 2}, {strings.Repeat("[", 60) + strings.Repeat("]", 60), 99},
	} {
		if _, fault := jparse.Parse([]byte(c.s), c.depth); fault != (api.Fault{}) {
			t.Errorf("Parse(%q, %d): %v", c.s, c.depth, fault)
		}
	}
}

func TestP701Units(t *testing.T) {
	cases := []struct {
		s    string
		want []int
	}{
		{`""`, nil},
		{`"a b"`, []int{'a', ' ', 'b'}},
		{`"\"\\\/\b\f\n\r\t"`, []int{'"', '\\', '/', 8, 12, 10, 13, 9}},
		{`"\u0041\u00e9\uD83d\ude00\udfff\u0000"`, []int{'A', 0xe9, 0xd83d, 0xde00, 0xdfff, 0}},
		{`"é€😀"`, []int{0xe9, 0x20ac, 0xd83d, 0xde00}},
		{"\"\x7f\"", []int{0x7f}},
		{`"` + strings.Repeat("x", 25000) + `"`, slices.Repeat([]int{'x'}, 25000)}, // MaxBytes is no limit here
	}
	for _, c := range cases {
		if got, ok := jparse.Units([]byte(c.s)); !slices.Equal(got, c.want) || !ok {
			t.Errorf("Units(%q) = %x, %v", c.s, got, ok)
		}
	}
	wrongs := []string{
		``, `"`, `a`, `"a`, `a"`, ` "a"`, `"a" `, `"a"b"`, `"\"`, `"\x"`, `"\u123"`, `"\u12g4"`, `"\u+123"`, `"\u1_23"`, `"\U0041"`,
		"\"\n\"", "\"\x1f\"", "\"\xff\"", "\"\xed\xa0\x80\"", `1`, `"""`, `'a'`,
	}
	for _, s := range wrongs {
		if got, ok := jparse.Units([]byte(s)); len(got) != 0 || ok {
			t.Errorf("Units(%q) = %x, %v", s, got, ok)
		}
	}
}

func TestP702Same(t *testing.T) {
	texts := []string{
		"true", "false", "null", "0", "-0", "1", "10", `""`, `"a"`, `"1"`, "[]", "{}", "[1]", "[1,2]", "[2,1]", "[[]]", "[[],[]]",
		`{"a":1}`, `{"a":2}`, `{"b":1}`, `{"a":1,"b":2}`, `{"b":2,"a":1}`, `{"a":1,"a":1}`, `["a",1]`,
	}
	for i, a := range texts {
		for j, b := range texts {
			if got := jparse.Same(parse(t, a), parse(t, "\n "+b+" ")); got != (i == j) {
				t.Errorf("Same of %s and %s is %v", a, b, got)
			}
		}
	}
	if !jparse.Same(parse(t, `[1.0,"\u0061" , {"b":[ ]}]`), parse(t, `[1e0,"a",{"b":[]}]`)) {
		t.Error("Same is false for values that are spelled differently")
	}
}

func TestP702SameOfAnyValues(t *testing.T) {
	a := api.Value{Kind: 99, Text: []int{1}, From: 1, To: 2, Marks: []int{3}, Items: []api.Value{{Kind: -1}}}
	b := api.Value{Kind: 99, Text: []int{1}, From: 4, Items: []api.Value{{Kind: -1, To: 5}}}
	if !jparse.Same(a, b) || !jparse.Same(api.Value{}, api.Value{}) {
		t.Error("Same is false")
	}
	b.Num.Neg = true
	if jparse.Same(a, b) {
		t.Error("Same is true")
	}
}

func TestP702SameOfDeepValues(t *testing.T) {
	deep := api.Value{}
	for range 1000000 {
		deep = api.Value{Kind: api.VArray, Items: []api.Value{deep}}
	}
	if !jparse.Same(deep, deep) || jparse.Same(deep, deep.Items[0]) {
		t.Error("Same of deep values")
	}
}

func TestP102Memory(t *testing.T) {
	s := `{"a":[1,"b"],"c":{}}`
	b := []byte(s)
	v := parse(t, s)
	for i := range b {
		b[i] = 'x'
	}
	left, _ := jparse.Parse([]byte(s), api.MaxDepth)
	left.Items[0].Text[0] = 'z'
	left.Items = append(left.Items[:2:2], api.Value{})
	if !reflect.DeepEqual(v, parse(t, s)) {
		t.Error("values share memory")
	}
	b = []byte(s)
	jparse.Parse(b, 1)
	jparse.Units(b)
	if string(b) != s {
		t.Error("Parse changes its argument")
	}
}
