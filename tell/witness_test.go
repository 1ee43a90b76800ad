package tell

import (
	"testing"

	"doppelganger/api"
	"doppelganger/lang"
	"doppelganger/play"
)

// wantWitness checks that a witness tells two pieces apart. It reports false if a limit is in the way.
func wantWitness(t *testing.T, p, q *lang.Piece) bool {
	t.Helper()
	row, _, err := Differ(p, q)
	if err != api.OK {
		t.Fatalf("Differ of %q and %q: %d", p.Text(), q.Text(), err)
	}
	context, err := Witness(p, q)
	if err == api.ErrFull && context == nil && len(row) > 12 {
		return false
	}
	if err != api.OK {
		t.Fatalf("Witness of %q and %q: %d", p.Text(), q.Text(), err)
	}
	wantShape(t, context, p.Type(), len(row))
	ofP, ok := fill(t, context, p)
	ofQ, okToo := fill(t, context, q)
	if !ok || !okToo {
		return false
	}
	one, _, ok := run(t, ofP)
	other, _, okToo := run(t, ofQ)
	if !ok || !okToo {
		return false
	}
	fault, never := outcome{result: api.Faulted}, outcome{result: api.Never}
	if !(one == fault && other == never || one == never && other == fault) {
		t.Errorf("%q comes to %v with %q, and to %v with %q", context.Text(), one, p.Text(), other, q.Text())
	}
	return true
}

// P5.5, P5.9: programs that show differences, also where one of the pieces faults.
func TestWitness(t *testing.T) {
	for _, texts := range [][2]string{
		{"p : com |- com : p; stop", "p : com |- com : stop"},
		{"x : exp |- exp : x + x", "x : exp |- exp : x * 2"},
		{"f(com) : com |- com : f({ skip })", "f(com) : com |- com : f({ stop })"},
		{"p : com |- com : p; fault", "p : com |- com : p"},
		{"|- com : fault", "|- com : skip"},
		{"|- com : fault", "|- com : stop"},
		{"|- exp : fault", "|- exp : 3"},
		{"p : com |- com : fault", "p : com |- com : p"},
		{"|- exp : 2", "|- exp : 3"},
		{"f(com) : com |- com : f({ fault })", "f(com) : com |- com : f({ skip })"},
		{"f(com) : com |- com : f({ fault })", "f(com) : com |- com : block k { f({ exit k }) }"},
		{"f(com) : com |- com : f({ skip })", "f(com) : com |- com : block k { f({ exit k }) }"},
		{"f(val, exp) : exp |- exp : f(1, 2)", "f(val, exp) : exp |- exp : f(1, 3)"},
		{"f(val, val, val) : exp |- exp : f(1, 2, 3)", "f(val, val, val) : exp |- exp : f(1, 3, 2)"},
		{"x : exp |- com : if x == 2 { fault } { skip }", "x : exp |- com : if x == 2 { skip } { skip }"},
		{"f(com) : com |- com : new x = 0 { f({ x := x + 1; if x == 3 { fault } { skip } }) }", "f(com) : com |- com : f({ skip })"},
		{"p : com |- com : p; p; p; p; p; p; p; p; p", "p : com |- com : p; p; p; p; p; p; p; p; p; p"},
		{"p : com, q : com |- com : p; q", "p : com, q : com |- com : q; p"},
	} {
		p, q := mustRead(t, texts[0]), mustRead(t, texts[1])
		if !wantWitness(t, p, q) || !wantWitness(t, q, p) {
			t.Errorf("no witness of %q and %q", texts[0], texts[1])
		}
	}
}

// P5.9 (T5): random pieces that are apart.
func TestRandomWitnesses(t *testing.T) {
	shown, hidden, faulting := 0, 0, 0
	pairs(t, 500, declarations, func(p, q *lang.Piece) {
		row, first, err := Differ(p, q)
		if err != api.OK {
			return
		}
		if has(t, p, row) != first || has(t, q, row) == first {
			t.Errorf("Differ of %q and %q: %v, %v", p.Text(), q.Text(), row, first)
		}
		if !wantWitness(t, p, q) {
			hidden++
			return
		}
		shown++
		row[len(row)-1] = api.Move{Fault: true}
		if has(t, p, row) || has(t, q, row) {
			faulting++
		}
	})
	if shown < 500 || hidden > shown/10 || faulting < 50 {
		t.Errorf("%d witnesses, %d with a fault, %d limits in the way", shown, faulting, hidden)
	}
}

// P5.5: a difference that is shown late has a witness, or is ErrFull.
func TestLateDifferences(t *testing.T) {
	loop := func(rounds string) *lang.Piece {
		return mustRead(t, "p : com |- com : new a = 3 { while a { new b = 3 { while b { "+rounds+"; b := b - 1 } }; a := a - 1 } }")
	}
	p, q := loop("p; p; p; p; p; p; p; p"), loop("p; p; p; p; p; p; p; p; p")
	row, _, err := Differ(p, q)
	if err != api.OK || len(row) != 2+2*72 {
		t.Fatalf("Differ: %d moves, %d", len(row), err)
	}
	wantWitness(t, p, q)
	r := mustRead(t, "p : com |- com : new a = 3 { while a { new b = 3 { while b { new c = 3 { while c { p; p; p; p; p; p; p; p; p; p; c := c - 1 } }; b := b - 1 } }; a := a - 1 } }")
	s := mustRead(t, "p : com |- com : while 1 { p }")
	if row, _, err := Differ(r, s); err != api.OK || len(row) != 2+2*270 {
		t.Fatalf("Differ: %d moves, %d", len(row), err)
	}
	wantWitness(t, r, s)
}

// P5.5: the piece that has the play alone need not be the one that comes to the fault.
func TestWitnessOfFault(t *testing.T) {
	p, q := mustRead(t, "p : com |- com : p; fault"), mustRead(t, "p : com |- com : p")
	context, err := Witness(p, q)
	if err != api.OK {
		t.Fatalf("Witness: %d", err)
	}
	for _, one := range []*lang.Piece{p, q} {
		filled, err := lang.Fill(context, one)
		if err != api.OK {
			t.Fatalf("Fill: %d", err)
		}
		if result, _, _, err := play.Run(filled); err != api.OK || (result == api.Faulted) != (one == p) {
			t.Errorf("%q: %d, %d", one.Text(), result, err)
		}
	}
}
