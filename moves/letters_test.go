package moves

import (
	"reflect"
	"slices"
	"testing"

	"doppelganger/api"
)

// P4.3: all moves, in their order.
func TestLetters(t *testing.T) {
	ask := func(name string, value int) api.Move { return api.Move{Name: name, Value: value} }
	askArgument := func(name string, arg int) api.Move { return api.Move{Name: name, Arg: arg} }
	answer := func(name string, arg, value int) api.Move {
		return api.Move{Name: name, Arg: arg, Answer: true, Value: value}
	}
	fault := api.Move{Fault: true}
	f := api.Decl{Name: "f", Args: []api.Type{api.Com, api.Val, api.Exp}, Result: api.Com}
	p := api.Decl{Name: "p", Result: api.Com}
	x := api.Decl{Name: "x", Result: api.Exp}
	ofF := []api.Move{
		ask("f", 0), ask("f", 1), ask("f", 2), ask("f", 3), answer("f", 0, 0),
		askArgument("f", 1), answer("f", 1, 0),
		askArgument("f", 3), answer("f", 3, 0), answer("f", 3, 1), answer("f", 3, 2), answer("f", 3, 3),
	}
	ofX := []api.Move{ask("x", 0), answer("x", 0, 0), answer("x", 0, 1), answer("x", 0, 2), answer("x", 0, 3)}
	com := []api.Move{{}, answer("", 0, 0), fault}
	exp := []api.Move{{}, answer("", 0, 0), answer("", 0, 1), answer("", 0, 2), answer("", 0, 3), fault}
	for _, c := range []struct {
		decls []api.Decl
		typ   api.Type
		want  []api.Move
	}{
		{nil, api.Com, com},
		{nil, api.Exp, exp},
		{[]api.Decl{p}, api.Com, slices.Concat(com, []api.Move{ask("p", 0), answer("p", 0, 0)})},
		{[]api.Decl{x}, api.Exp, slices.Concat(exp, ofX)},
		{[]api.Decl{x, f}, api.Com, slices.Concat(com, ofF, ofX)},
		{[]api.Decl{f, x}, api.Com, slices.Concat(com, ofF, ofX)},
		{[]api.Decl{{Name: "ab"}, {Name: "b"}, {Name: "a"}}, api.Com, slices.Concat(com,
			[]api.Move{ask("a", 0), answer("a", 0, 0), ask("ab", 0), answer("ab", 0, 0), ask("b", 0), answer("b", 0, 0)})},
	} {
		if got := Letters(c.decls, c.typ); !slices.Equal(got, c.want) {
			t.Errorf("Letters of %v, %d: %v; want %v", c.decls, c.typ, got, c.want)
		}
	}
}

// P4.3: with several values there is a question for each row of them. So many letters there may be.
func TestMostLetters(t *testing.T) {
	vals := []api.Type{api.Val, api.Val, api.Val}
	decls := []api.Decl{{Name: "d", Args: vals, Result: api.Exp}, {Name: "c", Args: vals, Result: api.Exp}, {Name: "b", Args: vals, Result: api.Exp}, {Name: "a", Args: vals, Result: api.Exp}}
	list := Letters(decls, api.Exp)
	if want := 6 + 4*(64+4); len(list) != want || want > api.MaxSigns {
		t.Fatalf("%d letters; want %d", len(list), want)
	}
	for value := range 64 {
		if want := (api.Move{Name: "b", Value: value}); list[6+68+value] != want {
			t.Errorf("letter %d: %v; want %v", 6+68+value, list[6+68+value], want)
		}
	}
}

// P4.3: declarations that no text has, or another type, have no moves.
func TestNoLetters(t *testing.T) {
	p := api.Decl{Name: "p", Result: api.Com}
	for _, decls := range [][]api.Decl{
		{p, p},
		{{Name: ""}}, {{Name: "P"}}, {{Name: "a b"}}, {{Name: "abcdefghi"}}, {{Name: "skip"}}, {{Name: "val"}}, {{Name: "a1"}},
		{{Name: "p", Result: api.Val}}, {{Name: "p", Result: -1}}, {{Name: "p", Result: 3}},
		{{Name: "p", Args: []api.Type{3}}}, {{Name: "p", Args: []api.Type{api.Com, -1}}},
		{{Name: "p", Args: make([]api.Type, api.MaxArgs+1)}},
		{{Name: "a"}, {Name: "b"}, {Name: "c"}, {Name: "d"}, {Name: "e"}},
	} {
		if got := Letters(decls, api.Com); len(got) != 0 {
			t.Errorf("Letters of %v: %v", decls, got)
		}
	}
	for _, typ := range []api.Type{api.Val, -1, 3, 1 << 40} {
		if got := Letters([]api.Decl{p}, typ); len(got) != 0 {
			t.Errorf("Letters of the type %d: %v", typ, got)
		}
	}
}

// P3: declarations stay as they are, and letters are new ones each time.
func TestLettersShareNothing(t *testing.T) {
	decls := []api.Decl{{Name: "x", Args: []api.Type{api.Val}, Result: api.Exp}, {Name: "f"}}
	first := Letters(decls, api.Com)
	want := slices.Clone(first)
	for i := range first {
		first[i] = api.Move{Name: "other"}
	}
	if got := Letters(decls, api.Com); !slices.Equal(got, want) {
		t.Errorf("other letters: %v; want %v", got, want)
	}
	if !reflect.DeepEqual(decls, []api.Decl{{Name: "x", Args: []api.Type{api.Val}, Result: api.Exp}, {Name: "f"}}) {
		t.Errorf("other declarations: %v", decls)
	}
}
