package moves

import (
	"reflect"
	"slices"
	"sync"
	"testing"

	"doppelganger/api"
	"doppelganger/auto"
	"doppelganger/lang"
)

// P1, P2, P4.7, P4.8: what is no piece is ErrArg, ahead of all else, with nothing else.
func TestNoPiece(t *testing.T) {
	for _, p := range []*lang.Piece{nil, {}} {
		if m, err := Plays(p); err != api.ErrArg || !reflect.DeepEqual(m, api.Machine{}) {
			t.Errorf("Plays: %v, %d", m, err)
		}
		for _, play := range [][]api.Move{nil, {{}}, {{}, {Answer: true}}, make([]api.Move, api.MaxSteps+1)} {
			wantPlay(t, p, play, false, api.ErrArg)
		}
	}
}

// P1, P4.1, P4.8: moves that cannot be made there, or nowhere, are none of a play.
func TestOtherMoves(t *testing.T) {
	p := mustRead(t, "f(com, val, exp) : exp, p : com |- exp : f({ p }, 2, 3)")
	asked := api.Move{Name: "f", Value: 2}
	wantPlay(t, p, []api.Move{{}, asked}, true, api.OK)
	for _, move := range []api.Move{
		{Name: "f", Value: 2, Arg: 1}, {Name: "f", Value: 2, Answer: true}, {Name: "f", Value: 2, Fault: true}, {Name: "f", Value: 18}, {Name: "f", Value: -2}, {Name: "p", Value: 2}, {Value: 2}, {Name: "f"},
	} {
		wantPlay(t, p, []api.Move{{}, move}, false, api.OK)
	}
	for _, first := range []api.Move{{Value: 1}, {Arg: 1}, {Name: "f"}, {Fault: true}, {Answer: true}, {Name: "piece"}, {Arg: -1}} {
		wantPlay(t, p, []api.Move{first, asked}, false, api.OK)
	}
	for _, c := range []struct {
		asks, says api.Move
		want       bool
	}{
		{api.Move{Name: "f", Answer: true, Value: 3}, api.Move{Answer: true, Value: 3}, true},
		{api.Move{Name: "f", Answer: true, Value: 4}, api.Move{Answer: true}, false},
		{api.Move{Name: "f", Answer: true, Value: -1}, api.Move{Answer: true, Value: 3}, false},
		{api.Move{Name: "f", Answer: true, Value: 1 << 60}, api.Move{Answer: true}, false},
		{api.Move{Name: "p", Answer: true}, api.Move{Answer: true}, false},
		{api.Move{Name: "f", Answer: true, Fault: true}, api.Move{Answer: true}, false},
		{api.Move{Fault: true}, api.Move{Fault: true}, false},
		{api.Move{}, asked, false},
		{api.Move{Answer: true}, api.Move{Answer: true}, false},
		{api.Move{Name: "f", Arg: 1}, api.Move{Name: "p"}, true},
		{api.Move{Name: "f", Arg: 3}, api.Move{Name: "f", Arg: 3, Answer: true, Value: 3}, true},
		{api.Move{Name: "f", Arg: 2}, api.Move{Name: "f", Arg: 2, Answer: true, Value: 2}, false},
		{api.Move{Name: "f", Arg: 4}, api.Move{Name: "f", Arg: 4, Answer: true}, false},
		{api.Move{Name: "f", Arg: -1}, api.Move{Name: "p"}, false},
		{api.Move{Name: "f", Arg: 1, Value: 1}, api.Move{Name: "p"}, false},
		{api.Move{Name: "f", Arg: 1, Answer: true}, api.Move{Name: "p"}, false},
		{api.Move{Name: "f", Arg: 1, Answer: true}, api.Move{Answer: true}, false},
	} {
		wantPlay(t, p, []api.Move{{}, asked, c.asks, c.says}, c.want, api.OK)
	}
}

// P4.7: a piece without plays has a machine, too: one without states.
func TestNoStates(t *testing.T) {
	for _, text := range []string{"|- com : stop", "x : exp |- exp : stop + x"} {
		p := mustRead(t, text)
		m, err := Plays(p)
		if err != api.OK || m.Letters != len(lettersOf(p)) || m.Start != -1 || len(m.Next) != 0 || len(m.End) != 0 || auto.Valid(m) != api.OK {
			t.Errorf("Plays of %q: %v, %d", text, m, err)
		}
	}
}

// P3, P4: neither the piece nor the moves are changed, results share no memory, and the same comes of it each time, also at the same time.
func TestCallsAtTheSameTime(t *testing.T) {
	p := mustRead(t, "f(com, exp) : exp, p : com |- exp : new x = 1 [ f({ p; x := x + 1 }, x) + x ]")
	nodes, decls := p.Nodes(), p.Decls()
	want := mustPlays(t, p)
	play, _ := tell(p, []int{4, 0, 5, 1})
	if len(play)%2 == 1 || len(play) < 8 {
		t.Fatalf("no play: %v", play)
	}
	var all sync.WaitGroup
	for range 8 {
		all.Go(func() {
			for range 50 {
				moves := slices.Clone(play)
				if is, err := Play(p, moves); !is || err != api.OK || !slices.Equal(moves, play) {
					t.Errorf("Play: %v, %d; %v", is, err, moves)
				}
				m, err := Plays(p)
				if err != api.OK || !reflect.DeepEqual(m, want) {
					t.Errorf("another machine: %v, %d", m, err)
				}
				for _, row := range m.Next {
					clear(row)
				}
				clear(m.End)
			}
		})
	}
	all.Wait()
	if !reflect.DeepEqual(p.Nodes(), nodes) || !reflect.DeepEqual(p.Decls(), decls) {
		t.Error("the piece is another one")
	}
}
