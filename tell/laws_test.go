package tell

import (
	"math/rand"
	"slices"
	"strings"
	"testing"

	"doppelganger/api"
	"doppelganger/lang"
)

// around makes the text of a random context of a type for pieces with some declarations. It binds their names to procedures, and declares some names itself.
func (m *maker) around(inner []api.Decl, typ, whole api.Type, outer []api.Decl) string {
	m.calls = outer
	text1, shut := "", ""
	for _, decl := range inner {
		open, end, _ := strings.Cut(block(whole, "@"), "@")
		text1 += m.proc(decl, 1+m.Intn(3)) + " " + open
		shut += end
	}
	hole := api.Decl{Name: "hole", Result: typ}
	m.calls = slices.Concat(outer, inner, []api.Decl{hole, hole, hole, hole})
	return text(append([]api.Decl{hole}, outer...), whole, text1+m.whole(whole)+shut)
}

// filledPairs makes random pairs of pieces that are the same, and fills random contexts with both.
func filledPairs(t *testing.T, seeds int, outer []string, use func(p, q *lang.Piece)) {
	t.Helper()
	random := rand.New(rand.NewSource(int64(seeds)))
	seed := 0
	pairs(t, seeds, declarations, func(p, q *lang.Piece) {
		if same, _ := Same(p, q); !same || p.Text() == q.Text() {
			return
		}
		for range 4 {
			seed++
			declared := declsOf(outer[random.Intn(len(outer))])
			m := newMaker(seed, nil)
			context, ok := piece(t, m.around(p.Decls(), p.Type(), api.Type(random.Intn(2)), declared))
			if !ok {
				continue
			}
			ofP, err := lang.Fill(context, p)
			ofQ, errToo := lang.Fill(context, q)
			if err == api.OK && errToo == api.OK {
				use(ofP, ofQ)
			} else if err != errToo && err != api.ErrFull && errToo != api.ErrFull {
				t.Errorf("Fill of %q with %q: %d; with %q: %d", context.Text(), p.Text(), err, q.Text(), errToo)
			}
		}
	})
}

// P5.7 (T4): no program comes to another result with the one of two pieces that are the same than with the other.
func TestPrograms(t *testing.T) {
	ends := map[api.Result]int{}
	filledPairs(t, 500, []string{""}, func(p, q *lang.Piece) {
		one, _, ok := run(t, p)
		other, _, okToo := run(t, q)
		if !ok || !okToo {
			return
		}
		ends[one.result]++
		if one != other {
			t.Errorf("%q comes to %v, and %q to %v", p.Text(), one, q.Text(), other)
		}
	})
	if ends[api.Done] < 300 || ends[api.Faulted] < 100 || ends[api.Never] < 300 {
		t.Errorf("the programs say little: %v", ends)
	}
}

// P5.8: what is made of pieces that are the same is the same.
func TestCongruence(t *testing.T) {
	count := 0
	filledPairs(t, 300, []string{"p", "x", "f", "pq", "gx", "eh"}, func(p, q *lang.Piece) {
		if !within(p) || !within(q) {
			return
		}
		count++
		if same, err := Same(p, q); !same || err != api.OK {
			t.Errorf("Same of %q and %q: %v, %d", p.Text(), q.Text(), same, err)
		}
	})
	if count < 500 {
		t.Errorf("only %d pairs are within the limits", count)
	}
}
