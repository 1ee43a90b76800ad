package tell

import (
	"math/rand"
	"strings"
	"testing"

	"doppelganger/api"
	"doppelganger/lang"
	"doppelganger/moves"
)

// declarations are those of random pieces, by the names of signatures.
var declarations = []string{"", "p", "x", "f", "g", "pq", "px", "pf", "eg", "fg", "fh", "vx", "ehx", "pxfg", "eghv", "fgvx"}

// randomPieces makes random pieces, and hands on those that no limit is in the way of, with their machines.
func randomPieces(t *testing.T, seeds int, use func(random *rand.Rand, p *lang.Piece, m api.Machine)) {
	t.Helper()
	used := 0
	for seed := range seeds {
		random := rand.New(rand.NewSource(int64(seed)))
		decls := declsOf(declarations[random.Intn(len(declarations))])
		typ := api.Type(random.Intn(2))
		p, ok := piece(t, text(decls, typ, newMaker(seed, decls).whole(typ)))
		if !ok {
			continue
		}
		m, err := moves.Plays(p)
		if err != api.OK {
			continue
		}
		used++
		use(random, p, m)
	}
	if used < seeds*9/10 {
		t.Errorf("only %d of %d pieces are within the limits", used, seeds)
	}
}

// randomPlay returns a random play of a piece with a machine, of at most some moves.
func randomPlay(random *rand.Rand, p *lang.Piece, m api.Machine, most int) []api.Move {
	letters := moves.Letters(p.Decls(), p.Type())
	var play []api.Move
	at := m.Start
	for at >= 0 && len(play) < most {
		var can []int
		for letter, next := range m.Next[at] {
			if next >= 0 {
				can = append(can, letter)
			}
		}
		if len(can) == 0 {
			break
		}
		letter := can[random.Intn(len(can))]
		play = append(play, letters[letter])
		at = m.Next[at][letter]
	}
	return play[:len(play)-len(play)%2]
}

// pairs makes random pairs of comparable pieces, many of which are much alike: the one is the other one with a few numbers or steps changed, or with a few terms put in another way.
func pairs(t *testing.T, seeds int, names []string, use func(p, q *lang.Piece)) {
	t.Helper()
	for seed := range seeds {
		random := rand.New(rand.NewSource(int64(seed)))
		decls := declsOf(names[random.Intn(len(names))])
		typ := api.Type(random.Intn(2))
		make := func(seed int, ties *rand.Rand) string {
			m := newMaker(seed, decls)
			m.ties = ties
			return text(decls, typ, m.whole(typ))
		}
		first := make(seed, nil)
		p, ok := piece(t, first)
		for _, other := range []string{make(seed, random), make(seed+seeds, nil), changed(random, first), changed(random, first)} {
			if q, okToo := piece(t, other); ok && okToo && within(p) && within(q) {
				use(p, q)
			}
		}
	}
}

// within reports whether a piece is within the limits.
func within(p *lang.Piece) bool {
	_, err := moves.Plays(p)
	return err == api.OK
}

// changed returns the text of a piece with a number and a step changed, if it has any.
func changed(random *rand.Rand, text string) string {
	term := strings.Index(text, "|-")
	bytes := []byte(text)
	for range 20 {
		at := term + random.Intn(len(bytes)-term)
		if '0' <= bytes[at] && bytes[at] <= '3' {
			bytes[at] = byte('0' + random.Intn(4))
			break
		}
	}
	return strings.Replace(string(bytes), "skip", []string{"skip", "stop", "fault"}[random.Intn(3)], 1)
}
