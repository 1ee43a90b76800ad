package parts

import (
	"reflect"
	"strings"
	"testing"

	"doppelganger/api"
	"doppelganger/lang"
)

// The modules of the chapter's examples: a counter that counts up, one that counts down, and one that tells the square.
const (
	up     = "new n = 0; inc: com { n := n + 1 }; get: exp [ n ]"
	down   = "new m = 0; dec: com { m := m - 1 }; get: exp [ 0 - m ]"
	square = "new n = 0; inc: com { n := n + 1 }; get: exp [ n * n ]"
)

func mustRead(t *testing.T, text string) *Module {
	t.Helper()
	m, err := Read(text)
	if err != api.OK || m == nil {
		t.Fatalf("Read(%q): %d", text, err)
	}
	return m
}

func mustPiece(t *testing.T, m *Module) *lang.Piece {
	t.Helper()
	p, err := m.Piece()
	if err != api.OK {
		t.Fatalf("Piece of %q: %d", m.Text(), err)
	}
	return p
}

// readPiece reads the text of a piece that is right.
func readPiece(t *testing.T, text string) *lang.Piece {
	t.Helper()
	p, err := lang.Read(text)
	if err != api.OK {
		t.Fatalf("lang.Read(%q): %d", text, err)
	}
	return p
}

// wantError checks what Read says of a text.
func wantError(t *testing.T, text string, want api.Errno) {
	t.Helper()
	m, err := Read(text)
	if err != want || (m != nil) != (want == api.OK) {
		t.Errorf("Read(%.200q): %d; want %d", text, err, want)
	}
}

// wantSame checks what Same says of two modules, either way round.
func wantSame(t *testing.T, a, b *Module, want bool, wantErr api.Errno) {
	t.Helper()
	for range 2 {
		if same, err := Same(a, b); same != want || err != wantErr {
			t.Errorf("Same of %.200q and %.200q: %v, %d; want %v, %d", a.Text(), b.Text(), same, err, want, wantErr)
		}
		a, b = b, a
	}
}

// wantRelation checks the pairs of two modules: "00 1" is the first state 0, 0 and the second state 1.
func wantRelation(t *testing.T, a, b *Module, wantErr api.Errno, want ...string) {
	t.Helper()
	pairs, err := Relation(a, b)
	if got := spelled(pairs); err != wantErr || !reflect.DeepEqual(got, want) {
		t.Errorf("Relation of %.200q and %.200q: %q, %d; want %q, %d", a.Text(), b.Text(), got, err, want, wantErr)
	}
}

func spelled(pairs [][2][]int) []string {
	var list []string
	for _, p := range pairs {
		list = append(list, digits(p[0])+" "+digits(p[1]))
	}
	return list
}

func digits(values []int) string {
	var text strings.Builder
	for _, value := range values {
		text.WriteByte(byte('0' + value))
	}
	return text.String()
}

// skips returns a row of some steps.
func skips(count int) string {
	return strings.Repeat("skip; ", count-1) + "skip"
}

// nested returns a command that stands within some blocks.
func nested(blocks int, inner string) string {
	return strings.Repeat("block k { ", blocks) + inner + strings.Repeat(" }", blocks)
}
