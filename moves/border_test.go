package moves

import (
	"math/rand"
	"testing"

	"doppelganger/api"
)

// wantBeyond checks whether a piece is beyond the border.
func wantBeyond(t *testing.T, text string, want bool) {
	t.Helper()
	err := api.OK
	if want {
		err = api.ErrFull
	}
	p := mustRead(t, text)
	wantPlay(t, p, nil, false, err)
	if _, got := Plays(p); got != err {
		t.Errorf("Plays of %q: %d; want %d", text, got, err)
	}
}

// P4.9: what is beyond the border, and what is not.
func TestBorder(t *testing.T) {
	const decls = "f(com) : com, g(com, exp) : com, h(val, com) : exp |- com : "
	for text, want := range map[string]bool{
		"f({ block k { f({ exit k }) } })":                                 true,
		"f({ f({ skip }) })":                                               false,
		"block k { f({ f({ exit k }) }) }":                                 false,
		"f({ block k { exit k } })":                                        false,
		"f({ block k { f({ skip }); exit k } })":                           false,
		"f({ block k { f({ block k { exit k } }) } })":                     false,
		"f({ block k { f({ block j { exit k } }) } })":                     true,
		"block k { f({ exit k }) }; f({ skip })":                           false,
		"f({ skip }); f({ block k { f({ skip }); f({ skip; exit k }) } })": true,
		// Directly, or further in.
		"f({ g({ block k { f({ exit k }) } }, 1) })":                                                           true,
		"f({ block k { g({ f({ exit k }) }, 1) } })":                                                           true,
		"f({ block k { f({ g({ exit k }, 1) }) } })":                                                           true,
		"f({ block k { f({ skip }); g({ exit k }, 1) } })":                                                     false,
		"f({ skip; if 1 { new x = 1 { block k { while x { f({ if x { exit k } { skip } }) } } } } { skip } })": true,
		// It is the same argument of the same name that has to be left.
		"f({ block k { g({ exit k }, 1) } })":                           false,
		"g({ block k { g({ skip }, exit k) } }, 1)":                     false,
		"g({ block k { g({ exit k }, 1) } }, 1)":                        true,
		"g({ skip }, do { block k { g({ exit k }, 1) } } [ 1 ])":        false,
		"g({ skip }, do { block k { g({ skip }, 1 + exit k) } } [ 1 ])": true,
		// Arguments by value do not count.
		"new x = h(1, { block k { new y = h(exit k, { skip }) { skip } } }) { skip }":              false,
		"new x = h(do { block k { new y = h(1, { exit k }) { skip } } } [ 1 ], { skip }) { skip }": false,
		"new x = h(1, { block k { new y = h(1, { exit k }) { skip } } }) { skip }":                 true,
		// What is never run counts.
		"stop; f({ block k { f({ exit k }) } })":             true,
		"f({ block k { stop; f({ fault; exit k }) } })":      true,
		"if 0 { f({ block k { f({ exit k }) } }) } { skip }": true,
		// It is the unfolded term that counts: a call of a procedure is none, what is not called is not there.
		"proc p(a : com) : com { a } { p({ block k { p({ exit k }) } }) }":                    false,
		"proc p(a : com) : com { f({ a }) } { p({ block k { p({ exit k }) } }) }":             true,
		"proc p(a : com) : com { f({ block k { a } }) } { p({ block k { p({ exit k }) } }) }": true,
		"proc p(a : com) : com { f({ skip }) } { p({ block k { p({ exit k }) } }) }":          false,
		"proc p() : com { f({ block k { f({ exit k }) } }) } { skip }":                        false,
		"proc p() : com { f({ block k { f({ exit k }) } }) } { p }":                           true,
		"proc f(a : com) : com { a } { f({ block k { f({ exit k }) } }) }":                    false,
	} {
		wantBeyond(t, decls+text, want)
	}
}

// P4.9: random pieces are beyond the border just if another way through their unfolded terms tells so.
func TestRandomBorders(t *testing.T) {
	count := map[bool]int{}
	for seed := range 3000 {
		m := &pieceMaker{Rand: rand.New(rand.NewSource(int64(seed)))}
		p := mustRead(t, "f(com) : com, g(exp, val) : exp, h(val, com, val) : com |- com : "+m.nesting(2+m.Intn(6)))
		beyond := walkThrough(p).beyond
		count[beyond]++
		want := api.OK
		if beyond {
			want = api.ErrFull
		}
		wantPlay(t, p, nil, false, want)
	}
	if count[true] < 300 || count[false] < 300 {
		t.Errorf("the pieces say little: %v", count)
	}
}
