package jmin_test

import (
	"reflect"
	"slices"
	"strings"
	"testing"

	"abridger/api"
	"abridger/jmin"
	"abridger/jparse"
)

func parse(t *testing.T, s string) api.Value {
	t.Helper()
	v, fault := jparse.Parse([]byte(s), api.MaxDepth)
	if fault != (api.Fault{}) {
		t.Errorf("Parse(%q): %v", s, fault)
	}
	return v
}

func text(l []api.Piece) string {
	out := ""
	for _, p := range l {
		out += p.Text
	}
	return out
}

func TestP901Pieces(t *testing.T) {
	got := jmin.Pieces(parse(t, " {\"a\" : [1.0 , true],\n\"\\u0062\":{}}"))
	want := []api.Piece{
		{Text: "{", From: 1}, {Text: `"a"`, From: 2}, {Text: ":", From: 6}, {Text: "[", From: 8}, {Text: "1", From: 9},
		{Text: ",", From: 13}, {Text: "true", From: 15}, {Text: "]", From: 19}, {Text: ",", From: 20}, {Text: `"b"`, From: 22},
		{Text: ":", From: 30}, {Text: "{", From: 31}, {Text: "}", From: 32}, {Text: "}", From: 33},
	}
	if !slices.Equal(got, want) {
		t.Errorf("Pieces: %v", got)
	}
}

func TestP901Text(t *testing.T) {
	cases := map[string]string{
		" null ": "null", "false": "false", "true": "true", "10000": "1e4", "-0.0": "-0", "0.10": "0.1",
		`"\u00e9\/\u000a"`: `"é/\n"`, "[ ]": "[]", "{ }": "{}", "[ 1 , 2 ]": "[1,2]", "[[],[ [ ] ]]": "[[],[[]]]",
		`{"b":1, "a":2, "b":3}`: `{"b":1,"a":2,"b":3}`,
	}
	for s, want := range cases {
		if got := text(jmin.Pieces(parse(t, s))); got != want {
			t.Errorf("Pieces of %s: %s", s, got)
		}
	}
}

func nested(n int) api.Value {
	v := api.Value{Kind: api.VNull}
	for range n {
		v = api.Value{Kind: api.VArray, Items: []api.Value{v}}
	}
	return v
}

func TestP901Right(t *testing.T) {
	key := api.Value{Kind: api.VText, Text: []int{'a'}}
	null := api.Value{Kind: api.VNull}
	rights := []api.Value{
		null, key, {Kind: api.VTrue}, {Kind: api.VFalse, From: 9}, {Kind: api.VText}, {Kind: api.VNumber},
		{Kind: api.VNumber, Num: api.Num{Neg: true, Digits: "15", Exp: "-99"}}, {Kind: api.VArray}, {Kind: api.VObject},
		{Kind: api.VArray, To: 7, Items: []api.Value{null, null}, Marks: []int{3}},
		{Kind: api.VObject, Items: []api.Value{key, null}, Marks: []int{0}},
		{Kind: api.VObject, Items: []api.Value{key, null, key, key}, Marks: []int{0, 9, 0}},
		{Kind: api.VNull, Text: []int{}, Items: []api.Value{}, Marks: []int{}},
		nested(api.MaxDepth),
	}
	for _, v := range rights {
		if !jmin.Right(v) || len(jmin.Pieces(v)) == 0 {
			t.Errorf("Right(%+v) is false", v)
		}
	}
	num := api.Num{Digits: "1", Exp: "0"}
	items := []api.Value{null}
	wrongs := []api.Value{
		{}, {Kind: -1}, {Kind: 8}, {Kind: api.VNull, From: -1},
		{Kind: api.VTrue, Text: []int{1}}, {Kind: api.VNull, Num: num}, {Kind: api.VFalse, Items: items}, {Kind: api.VNull, Marks: []int{1}},
		{Kind: api.VText, Num: num}, {Kind: api.VText, Items: items}, {Kind: api.VText, Marks: []int{1}}, {Kind: api.VText, Text: []int{-1}},
		{Kind: api.VText, Text: []int{65536}}, {Kind: api.VText, Num: api.Num{Neg: true}},
		{Kind: api.VNumber, Text: []int{1}}, {Kind: api.VNumber, Items: items}, {Kind: api.VNumber, Num: api.Num{Digits: "10", Exp: "0"}},
		{Kind: api.VNumber, Num: api.Num{Digits: "1"}}, {Kind: api.VNumber, Marks: []int{1}},
		{Kind: api.VArray, Text: []int{1}}, {Kind: api.VArray, Num: num}, {Kind: api.VArray, To: -1}, {Kind: api.VArray, Marks: []int{1}},
		{Kind: api.VArray, Items: []api.Value{null, null}}, {Kind: api.VArray, Items: []api.Value{null, null}, Marks: []int{-1}},
		{Kind: api.VArray, Items: []api.Value{null, null}, Marks: []int{1, 2}}, {Kind: api.VArray, Items: []api.Value{{}}},
		{Kind: api.VObject, Items: []api.Value{key}}, {Kind: api.VObject, Items: []api.Value{null, key}, Marks: []int{1}},
		{Kind: api.VObject, Items: []api.Value{key, null}}, {Kind: api.VObject, Items: []api.Value{key, null, key}, Marks: []int{1, 2}},
		{Kind: api.VObject, Items: []api.Value{key, {Kind: api.VText, From: -1}}, Marks: []int{1}}, {Kind: api.VObject, From: -1},
		nested(api.MaxDepth + 1), nested(100000),
	}
	for _, v := range wrongs {
		if jmin.Right(v) || len(jmin.Pieces(v)) != 0 {
			t.Errorf("Right(%+v) is true", v)
		}
	}
}

func TestP901OnlyListsHaveTo(t *testing.T) {
	key := api.Value{Kind: api.VText, Text: []int{'a'}}
	singles := []api.Value{
		key, {Kind: api.VText}, {Kind: api.VNumber}, {Kind: api.VNumber, Num: api.Num{Digits: "1", Exp: "0"}},
		{Kind: api.VTrue}, {Kind: api.VFalse}, {Kind: api.VNull},
	}
	for _, v := range singles {
		for _, to := range []int{0, -1, 1, 7, 1 << 40} {
			v.From, v.To = 7, to
			wholes := []api.Value{
				v,
				{Kind: api.VArray, To: 9, Items: []api.Value{v}},
				{Kind: api.VArray, To: 9, Items: []api.Value{key, v}, Marks: []int{5}},
				{Kind: api.VObject, To: 9, Items: []api.Value{key, v}, Marks: []int{5}},
				{Kind: api.VArray, Items: []api.Value{{Kind: api.VArray, Items: []api.Value{v}}}},
			}
			if v.Kind == api.VText {
				wholes = append(wholes, api.Value{Kind: api.VObject, Items: []api.Value{v, key}, Marks: []int{9}})
			}
			for _, whole := range wholes {
				if jmin.Right(whole) != (to == 0) || (len(jmin.Pieces(whole)) > 0) != (to == 0) {
					t.Errorf("Right(%+v) is %v", whole, jmin.Right(whole))
				}
			}
		}
	}
	for _, kind := range []int{api.VObject, api.VArray} {
		v := api.Value{Kind: kind, From: 3, To: 7}
		if want := []int{3, 7}; !jmin.Right(v) || !slices.Equal(froms(jmin.Pieces(v)), want) {
			t.Errorf("Pieces(%+v): %v", v, jmin.Pieces(v))
		}
	}
}

func froms(l []api.Piece) []int {
	var out []int
	for _, p := range l {
		out = append(out, p.From)
	}
	return out
}

func TestP902AllThatParseReturnsIsRight(t *testing.T) {
	texts := []string{
		" 1", ` "a"`, " true", " false", " null", " []", " {}", ` [ 1, "a", true, [ ], null ]`, ` {"a" : false, "" : { "b" : [ 2 ] } }`,
	}
	for _, s := range texts {
		if !jmin.Right(parse(t, s)) {
			t.Errorf("Right of %s is false", s)
		}
	}
}

func TestP902ParseOfPieces(t *testing.T) {
	texts := []string{
		`{"a":[1,-2.50e3,0.000001,{"\ud800":"\ud83d\ude00\u0001"}],"":{},"x":[[[]]]}`, `[1e1000, 1E-1000, 123456789012345678901234567890]`,
		`"\\\"\/\u2028"`, `-0`, "[true,false,null]", strings.Repeat("[", 60) + strings.Repeat("]", 60),
	}
	for _, s := range texts {
		v := parse(t, s)
		short := text(jmin.Pieces(v))
		again := parse(t, short)
		if !jparse.Same(v, again) || len(short) > len(s) {
			t.Errorf("%s becomes %s", s, short)
		}
		if text(jmin.Pieces(again)) != short {
			t.Errorf("%s becomes shorter", short)
		}
		if !reflect.DeepEqual(v, parse(t, s)) {
			t.Errorf("%s is changed", s)
		}
	}
}
