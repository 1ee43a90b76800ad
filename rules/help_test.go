package rules

import (
	"reflect"
	"strings"
	"testing"

	"doppelganger/api"
	"doppelganger/lang"
	"doppelganger/tell"
)

// unknowns are the declarations of the sides of most rules here.
const unknowns = "p : com, q : com, x : exp, y : exp"

func mustRead(t *testing.T, text string) *lang.Piece {
	t.Helper()
	p, err := lang.Read(text)
	if err != api.OK {
		t.Fatalf("Read(%q): %d", text, err)
	}
	return p
}

// sidesOf reads a rule as "com : skip; p ~ p".
func sidesOf(t *testing.T, text string) (left, right *lang.Piece) {
	t.Helper()
	typ, rest, _ := strings.Cut(text, " : ")
	one, other, found := strings.Cut(rest, " ~ ")
	if !found {
		t.Fatalf("no rule: %q", text)
	}
	head := unknowns + " |- " + typ + " : "
	return mustRead(t, head+one), mustRead(t, head+other)
}

// bookOf returns a book of some rules.
func bookOf(t *testing.T, texts ...string) *Book {
	t.Helper()
	b := New()
	for _, text := range texts {
		if err := b.Add(sidesOf(t, text)); err != api.OK {
			t.Fatalf("Add of %q: %d", text, err)
		}
	}
	return b
}

// equalPieces reports whether two pieces are equal as P1.9 says.
func equalPieces(p, q *lang.Piece) bool {
	return p.Type() == q.Type() && reflect.DeepEqual(p.Decls(), q.Decls()) && reflect.DeepEqual(p.Nodes(), q.Nodes())
}

// wantApply checks what comes of a piece to which a rule is applied, from its plain text, or an error.
func wantApply(t *testing.T, b *Book, i int, back bool, p *lang.Piece, node int, want string, wantErr api.Errno) {
	t.Helper()
	before := p.Text()
	got, err := b.Apply(i, back, p, node)
	if err != wantErr || (got != nil) != (wantErr == api.OK) {
		t.Errorf("Apply of rule %d, back %v, to %q at node %d: %q, %d; want %d", i, back, p.Text(), node, got.Text(), err, wantErr)
		return
	}
	if p.Text() != before {
		t.Errorf("%q has become %q", before, p.Text())
	}
	if err == api.OK && (got.Text() != want || !equalPieces(got, mustRead(t, want))) {
		t.Errorf("Apply of rule %d, back %v, to %q at node %d: %q; want %q", i, back, p.Text(), node, got.Text(), want)
	}
}

// wantSame checks that two pieces are the same (T7). It reports false if a limit is in the way.
func wantSame(t *testing.T, p, q *lang.Piece) bool {
	t.Helper()
	same, err := tell.Same(p, q)
	if !same && err != api.ErrFull {
		t.Errorf("Same of %q and %q: %v, %d", p.Text(), q.Text(), same, err)
	}
	return err == api.OK
}

// nested returns a command that stands within some blocks, each with a label of its own.
func nested(blocks int, inner string) string {
	text := inner
	for i := range blocks {
		text = "block " + string(rune('a'+i/26)) + string(rune('a'+i%26)) + string("klm"[i%3]) + " { " + text + " }"
	}
	return text
}

// skips returns a row of some steps.
func skips(count int) string {
	return strings.Repeat("skip; ", count-1) + "skip"
}
