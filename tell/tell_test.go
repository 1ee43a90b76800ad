package tell

import (
	"slices"
	"testing"

	"doppelganger/api"
	"doppelganger/lang"
	"doppelganger/moves"
)

// P5.1, P5.2: pieces that no program tells apart, and others.
func TestSame(t *testing.T) {
	for _, c := range []struct {
		p, q string
		same bool
	}{
		{"p : com |- com : skip; p", "p : com |- com : p", true},
		{"p : com |- com : p; skip", "p : com |- com : p", true},
		{"p : com |- com : p; stop", "p : com |- com : stop", false},
		{"p : com |- com : new x = 0 { p; if x { fault } { skip } }", "p : com |- com : p", true},
		{"f(com) : com |- com : f({ skip })", "f(com) : com |- com : f({ stop })", false},
		{"x : exp |- exp : x + x", "x : exp |- exp : x * 2", false},
		{"x : exp |- exp : new y = x [ y + y ]", "x : exp |- exp : x * 2", true},
		{"|- com : stop", "|- com : while 1 { skip }", true},
		{"|- com : stop", "|- com : fault", false},
		{"|- exp : 1 + 2", "|- exp : 3", true},
		{"|- exp : 1 + 2", "|- exp : 2", false},
		{"p : com, q : com |- com : p; q", "q : com, p : com |- com : p; q", true},
		{"p : com, q : com |- com : p; q", "p : com, q : com |- com : q; p", false},
		{"f(val) : com |- com : f(1)", "f(val) : com |- com : f(1 + 0)", true},
		{"f(val) : com |- com : f(1)", "f(val) : com |- com : f(2)", false},
		{"f(exp) : com |- com : f(1)", "f(exp) : com |- com : new x = 1 { f(x) }", true},
		{"f(com) : com |- com : block k { f({ exit k }) }", "f(com) : com |- com : f({ stop })", false},
		{"f(com) : com |- com : new x = 0 { f({ x := x + 1 }) }", "f(com) : com |- com : f({ skip })", true},
		{"f(com) : com |- com : new x = 0 { f({ x := x + 1; if x == 3 { fault } { skip } }) }", "f(com) : com |- com : f({ skip })", false},
	} {
		for _, pair := range [][2]string{{c.p, c.q}, {c.q, c.p}} {
			p, q := mustRead(t, pair[0]), mustRead(t, pair[1])
			if same, err := Same(p, q); same != c.same || err != api.OK {
				t.Errorf("Same of %q and %q: %v, %d; want %v", pair[0], pair[1], same, err, c.same)
			}
			if same, err := Same(p, p); !same || err != api.OK {
				t.Errorf("%q is not the same as itself: %d", pair[0], err)
			}
		}
	}
}

// P5.2: the first play that one piece has alone.
func TestDiffer(t *testing.T) {
	for _, c := range []struct {
		p, q  string
		want  string
		first bool
	}{
		{"p : com |- com : p; stop", "p : com |- com : stop", "? p?", true},
		{"x : exp |- exp : x + x", "x : exp |- exp : x * 2", "? x? x!0 !0", false},
		{"f(com) : com |- com : f({ skip })", "f(com) : com |- com : f({ stop })", "? f? f.1? f.1!0", true},
		{"p : com |- com : p; fault", "p : com |- com : p", "? p? p!0 !0", false},
		{"|- com : fault", "|- com : skip", "? !0", false},
		{"|- com : fault", "|- com : stop", "? fault", true},
		{"|- exp : 2", "|- exp : 1", "? !1", false},
		{"p : com, q : com |- com : q", "p : com, q : com |- com : p", "? p?", false},
		{"q : com |- com : q", "q : com |- com : fault", "? fault", false},
		{"g(val, val) : com |- com : g(3, 0)", "g(val, val) : com |- com : g(0, 1)", "? g(3,0)?", true},
		{"x : exp |- com : if x == 2 { stop } { skip }", "x : exp |- com : if x { skip } { skip }", "? x? x!2 !0", false},
		{"x : exp |- com : new y = x { if y == 2 { skip } { if y { fault } { skip } } }", "x : exp |- com : if x { skip } { skip }", "? x? x!1 !0", false},
		{"p : com |- com : p; p; p", "p : com |- com : p; p", "? p? p!0 p? p!0 !0", false},
		{"f(com) : com |- com : block k { f({ exit k }); stop }", "f(com) : com |- com : f({ skip }); stop", "? f? f.1? !0", true},
	} {
		p, q := mustRead(t, c.p), mustRead(t, c.q)
		for _, turned := range []bool{false, true} {
			play, first, err := Differ(p, q)
			if !slices.Equal(play, rowOf(c.want)) || first != (c.first != turned) || err != api.OK {
				t.Errorf("Differ of %q and %q: %v, %v, %d; want %s", p.Text(), q.Text(), play, first, err, c.want)
			}
			p, q = q, p
		}
	}
}

// firstDifference returns the first row of at most some moves that is a play of one of two pieces alone, by trying all.
func firstDifference(t *testing.T, p, q *lang.Piece, most int) (row []api.Move, first, found bool) {
	letters := moves.Letters(p.Decls(), p.Type())
	common := [][]api.Move{nil}
	for length := 2; length <= most; length += 2 {
		var longer [][]api.Move
		for _, before := range common {
			for _, asked := range letters {
				for _, said := range letters {
					row := append(slices.Clone(before), asked, said)
					ofP, ofQ := has(t, p, row), has(t, q, row)
					if ofP != ofQ {
						return row, ofP, true
					}
					if ofP {
						longer = append(longer, row)
					}
				}
			}
		}
		common = longer
	}
	return nil, false, false
}

// P5.2: what is told of random pieces, compared with all their short plays.
func TestShortestDifferences(t *testing.T) {
	told := map[int]int{}
	const most = 4
	pairs(t, 150, []string{"p", "x", "f", "px", "pf"}, func(p, q *lang.Piece) {
		row, first, found := firstDifference(t, p, q, most)
		play, isFirst, err := Differ(p, q)
		switch {
		case found && (err != api.OK || !slices.Equal(play, row) || isFirst != first):
			t.Errorf("Differ of %q and %q: %v, %v, %d; want %v, %v", p.Text(), q.Text(), play, isFirst, err, row, first)
		case !found && err == api.OK && (len(play) <= most || has(t, p, play) != isFirst || has(t, q, play) == isFirst):
			t.Errorf("Differ of %q and %q: %v, %v", p.Text(), q.Text(), play, isFirst)
		case !found && err != api.OK && (err != api.ErrSame || len(play) > 0 || isFirst):
			t.Errorf("Differ of %q and %q: %v, %v, %d", p.Text(), q.Text(), play, isFirst, err)
		}
		if same, sameErr := Same(p, q); same != (err == api.ErrSame) || sameErr != api.OK {
			t.Errorf("Same of %q and %q: %v, %d; Differ %d", p.Text(), q.Text(), same, sameErr, err)
		}
		told[len(play)]++
	})
	if told[0] < 50 || told[2] < 50 || told[4] < 20 || len(told) < 5 {
		t.Errorf("the differences say little: %v", told)
	}
}
