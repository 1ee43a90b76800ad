package moves

import (
	"math/rand"
	"slices"
	"testing"

	"doppelganger/api"
	"doppelganger/auto"
	"doppelganger/lang"
	"doppelganger/play"
)

// pieces makes random pieces and hands on those that no limit is in the way of.
func pieces(t *testing.T, seeds int, declares bool, use func(seed int, p *lang.Piece, m api.Machine)) {
	t.Helper()
	used := 0
	for seed := range seeds {
		text := newPiece(seed, declares)
		p, err := lang.Read(text)
		if err != api.OK {
			if err != api.ErrFull && len(text) <= api.MaxText {
				t.Fatalf("seed %d makes no piece: %d, %q", seed, err, text)
			}
			continue
		}
		if _, err := Plays(p); err != api.OK {
			continue
		}
		used++
		use(seed, p, mustPlays(t, p))
	}
	if used < seeds*9/10 {
		t.Errorf("only %d of %d pieces are within the limits", used, seeds)
	}
}

// T3, P4.2, P4.7, P4.8: the short plays of random pieces, as another way tells them, are accepted, and nothing else of their lengths is.
func TestShortPlays(t *testing.T) {
	const most = 4
	branching, quiet := 0, 0
	pieces(t, 3000, true, func(seed int, p *lang.Piece, m api.Machine) {
		plays, silent := tree(p, most)
		counts := map[int]uint64{}
		for _, play := range plays {
			counts[len(play)]++
			if is, err := Play(p, play); !is || err != api.OK {
				t.Fatalf("%q: Play of %v: %v, %d", p.Text(), play, is, err)
			}
			if !auto.Accepts(m, wordOf(t, p, play)) {
				t.Fatalf("%q: its machine does not accept %v", p.Text(), play)
			}
		}
		for length := range 2*most + 1 {
			if got, _ := auto.Count(m, length); got != counts[length] {
				t.Fatalf("%q: %d plays have %d moves; want %d", p.Text(), got, length, counts[length])
			}
		}
		if len(plays) > 20 {
			branching++
		}
		quiet += len(silent)
	})
	if branching < 300 || quiet < 300 {
		t.Errorf("only %d pieces have many plays, and only %d rows have no further move", branching, quiet)
	}
}

// T3, P4.7, P4.8: long plays of random pieces are accepted, and what is changed in one move is accepted by both or by neither.
func TestLongPlays(t *testing.T) {
	long, changed := 0, 0
	pieces(t, 3000, true, func(seed int, p *lang.Piece, m api.Machine) {
		random := rand.New(rand.NewSource(int64(seed)))
		letters := lettersOf(p)
		for range 5 {
			play, _ := tell(p, random.Perm(30))
			if len(play)%2 == 1 {
				play = play[:len(play)-1]
			}
			if len(play) == 0 {
				continue
			}
			if len(play) > 20 {
				long++
			}
			for range 5 {
				other := slices.Clone(play)
				other[random.Intn(len(play))] = letters[random.Intn(len(letters))]
				is, err := Play(p, other)
				if err != api.OK || is != auto.Accepts(m, wordOf(t, p, other)) {
					t.Fatalf("%q: Play of %v: %v, %d, but its machine says otherwise", p.Text(), other, is, err)
				}
				if is && !slices.Equal(other, play) {
					changed++
				}
			}
			if is, err := Play(p, play); !is || err != api.OK || !auto.Accepts(m, wordOf(t, p, play)) {
				t.Fatalf("%q: Play of %v: %v, %d", p.Text(), play, is, err)
			}
		}
	})
	if long < 500 || changed < 50 {
		t.Errorf("only %d plays are long, and only %d are plays when a move of them is changed", long, changed)
	}
}

// T2, P4.1: the play of a program is what comes of it.
func TestPrograms(t *testing.T) {
	results := map[api.Result]int{}
	pieces(t, 2000, false, func(seed int, p *lang.Piece, m api.Machine) {
		result, value, _, err := play.Run(p)
		if err != api.OK {
			return
		}
		results[result]++
		ends := map[api.Result][]api.Move{api.Done: {{}, {Answer: true, Value: value}}, api.Faulted: {{}, {Fault: true}}}
		if result == api.Never {
			if len(m.Next) > 0 {
				t.Fatalf("%q never ends, but it has a play", p.Text())
			}
			return
		}
		wantPlay(t, p, ends[result], true, api.OK)
		if len(m.Next) != 3 || !auto.Accepts(m, wordOf(t, p, ends[result])) {
			t.Fatalf("%q: another play than %v", p.Text(), ends[result])
		}
	})
	if results[api.Done] < 300 || results[api.Faulted] < 50 || results[api.Never] < 100 {
		t.Errorf("the programs say little: %v", results)
	}
}
