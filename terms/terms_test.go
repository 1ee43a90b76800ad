package terms

import (
	"reflect"
	"testing"

	"doppelganger/api"
	"doppelganger/lang"
)

func mustRead(t *testing.T, text string) *lang.Piece {
	t.Helper()
	p, err := lang.Read(text)
	if err != api.OK {
		t.Fatalf("Read(%q): %d", text, err)
	}
	return p
}

// Terms that are put together have the nodes of their texts.
func TestPutTogether(t *testing.T) {
	skip := Of(api.Node{Kind: api.Skip})
	for _, c := range []struct {
		text string
		term Term
	}{
		{"|- com : skip", skip},
		{"|- exp : 3", Number(3)},
		{"x : exp, f(com, val) : exp |- exp : f({ skip }, x)", Call("f", api.Exp, skip, Call("x", api.Exp))},
		{"p : com |- com : new x = 1 { p }", New("x", Number(1), Call("p", api.Com))},
		{"|- exp : new x = 1 [ do { skip; skip } [ x ] ]", New("x", Number(1), Do(Of(api.Node{Kind: api.Seq}, skip, skip), Read("x")))},
	} {
		if want := mustRead(t, c.text).Nodes(); !reflect.DeepEqual(c.term.Nodes(), want) {
			t.Errorf("nodes of %q: %v; want %v", c.text, c.term.Nodes(), want)
		}
	}
}

// The term of a node is taken out of a list, and leaves the list as it is.
func TestAt(t *testing.T) {
	whole := mustRead(t, "f(com) : com |- com : new x = 2 { f({ x := x + 1; stop }) }; proc g(a : val) : exp [ a ] { skip }")
	nodes := whole.Nodes()
	if !reflect.DeepEqual(At(nodes, 0).Nodes(), nodes) {
		t.Errorf("the whole term: %v", At(nodes, 0).Nodes())
	}
	part := mustRead(t, "|- com : new x = 2 { x := x + 1; stop }").Nodes()
	at := At(part, 2)
	if !reflect.DeepEqual(At(nodes, 4).Nodes(), at.Nodes()) {
		t.Errorf("the argument of f: %v", At(nodes, 4).Nodes())
	}
	list := at.Nodes()
	list[0].Kids[0] = 7
	if !reflect.DeepEqual(nodes, whole.Nodes()) || at.Nodes()[0].Kids[0] != 1 {
		t.Errorf("a list of nodes has become another one")
	}
}
