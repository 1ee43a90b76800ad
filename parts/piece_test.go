package parts

import (
	"testing"

	"doppelganger/api"
)

// P7.3: the piece binds the variables, the first one outside, and hands the bodies over to client.
func TestPiece(t *testing.T) {
	for _, c := range [][2]string{
		{up, "client(com, exp) : com |- com : new n = 0 { client({ n := n + 1 }, n) }"},
		{down, "client(com, exp) : com |- com : new m = 0 { client({ m := m - 1 }, 0 - m) }"},
		{"a: com { skip }", "client(com) : com |- com : client({ skip })"},
		{"a: exp [ 3 ]; b: exp [ stop ]; c: com { fault; stop }", "client(exp, exp, com) : com |- com : client(3, stop, { fault; stop })"},
		{"new b = 1; new a = 2; c: com { a := b }", "client(com) : com |- com : new b = 1 { new a = 2 { client({ a := b }) } }"},
		{"new z = 3; new y = 2; new x = 1; new w = 0; a: exp [ w + x + y + z ]", "client(exp) : com |- com : new z = 3 { new y = 2 { new x = 1 { new w = 0 { client(w + x + y + z) } } } }"},
		{"new x = 0; client: exp [ proc client(x : com) : exp [ do { x } [ 1 ] ] [ client({ x := x + 1 }) ] ]", "client(exp) : com |- com : new x = 0 { client(proc client(x : com) : exp [ do { x } [ 1 ] ] [ client({ x := x + 1 }) ]) }"},
		{"new x = 0; a: com { block x { exit x } }; b: com { new x = x { x := x } }", "client(com, com) : com |- com : new x = 0 { client({ block x { exit x } }, { new x = x { x := x } }) }"},
	} {
		m := mustRead(t, c[0])
		p := mustPiece(t, m)
		if got := p.Text(); got != c[1] {
			t.Errorf("Piece of %q: %q; want %q", c[0], got, c[1])
		}
		// P3: what is done to one piece is not seen in the module, nor in another piece of it.
		*p = *readPiece(t, "|- com : skip")
		if got := mustPiece(t, m).Text(); got != c[1] || m.Text() != c[0] {
			t.Errorf("the piece of %q has become %q", c[0], got)
		}
	}
}

// P7.3: pieces up to the limits.
func TestGreatPieces(t *testing.T) {
	for _, c := range []struct {
		text  string
		nodes int
	}{
		{"a: com { " + skips(300) + " }", api.MaxNodes},
		{"new x = 0; a: com { " + skips(299) + " }", api.MaxNodes},
		{"new w = 0; new x = 0; new y = 0; new z = 0; a: com { " + nested(54, "skip") + " }", 64},
	} {
		if got := len(mustPiece(t, mustRead(t, c.text)).Nodes()); got != c.nodes {
			t.Errorf("Piece of %.100q: %d nodes; want %d", c.text, got, c.nodes)
		}
	}
}
