package auto

import (
	"math/rand"
	"testing"

	"doppelganger/api"
)

func TestBoth(t *testing.T) {
	third := machine(1, "*[1], [2], [0]")
	for _, x := range []struct{ a, b, want api.Machine }{
		{even(), third, machine(1, "*[1], [2], [3], [4], [5], [0]")},
		{third, even(), machine(1, "*[1], [2], [3], [4], [5], [0]")},
		{even(), all(), even()},
		{even(), even(), even()},
		{even(), machine(1, "*[1], [2], *[1]"), even()},
		{even(), machine(1, "[1], *[0]"), machine(1, "")},
		{even(), machine(1, ""), machine(1, "")},
		{machine(1, ""), even(), machine(1, "")},
		{machine(0, "*[]"), machine(0, "*[], []"), machine(0, "*[]")},
		{machine(0, "*[]"), machine(0, "[]"), machine(0, "")},
		{machine(2, "*[0 1], *[-1 1]"), machine(2, "*[1 0], *[1 -1]"), machine(2, "*[1 2], *[1 -1], *[-1 2]")},
	} {
		got, err := Both(x.a, x.b)
		wantMachine(t, "Both of "+text(x.a)+" and "+text(x.b), got, err, x.want)
	}
}

func TestEither(t *testing.T) {
	for _, x := range []struct{ a, b, want api.Machine }{
		{even(), machine(1, "*[1], [2], [0]"), machine(1, "*[1], [2], *[3], *[4], *[5], [0]")},
		{even(), machine(1, "[1], *[0]"), all()},
		{even(), all(), all()},
		{even(), even(), even()},
		{even(), machine(1, ""), even()},
		{machine(1, "[0]"), machine(1, "*[1], [2], *[1]"), even()},
		{machine(1, ""), machine(1, "[0]"), machine(1, "")},
		{machine(0, "[]"), machine(0, "*[]"), machine(0, "*[]")},
		{machine(2, "[1 -1], *[-1 -1]"), machine(2, "[-1 1], [1 -1], *[-1 -1]"), machine(2, "[1 -1], *[-1 -1]")},
		{machine(2, "[1 -1], *[-1 -1]"), machine(2, "[-1 1], [2 -1], *[-1 -1]"), machine(2, "[1 2], *[-1 -1], [1 -1]")},
	} {
		got, err := Either(x.a, x.b)
		wantMachine(t, "Either of "+text(x.a)+" and "+text(x.b), got, err, x.want)
	}
}

// isOf checks that a machine is least, and accepts just the words up to a length that it should.
func isOf(t *testing.T, call string, m api.Machine, longest int, accepts func(word []int) bool) {
	t.Helper()
	if least := plainLeast(m); !same(m, least) {
		t.Errorf("%s: %s; the least one is %s", call, text(m), text(least))
	}
	words(m.Letters, longest, func(word []int) bool {
		if walk(m, word) != accepts(word) {
			t.Errorf("%s: %s, another answer to %v", call, text(m), word)
			return false
		}
		return true
	})
}

func TestBothAndEitherOfAnyMachines(t *testing.T) {
	r := rand.New(rand.NewSource(10))
	for range 3000 {
		a := anyMachine(r, r.Intn(4), 5)
		b := anyMachine(r, a.Letters, 5)
		both, err := Both(a, b)
		if err != api.OK {
			t.Fatalf("Both of %s and %s: %d", text(a), text(b), err)
		}
		isOf(t, "Both of "+text(a)+" and "+text(b), both, 5, func(word []int) bool { return walk(a, word) && walk(b, word) })
		either, err := Either(a, b)
		if err != api.OK {
			t.Fatalf("Either of %s and %s: %d", text(a), text(b), err)
		}
		isOf(t, "Either of "+text(a)+" and "+text(b), either, 5, func(word []int) bool { return walk(a, word) || walk(b, word) })
	}
}

// The words of both, and of either, by states that are least whatever machines they come from.
func TestBothAndEitherLaws(t *testing.T) {
	r := rand.New(rand.NewSource(11))
	for range 500 {
		a := anyMachine(r, 2, 8)
		b := anyMachine(r, 2, 8)
		both, _ := Both(a, b)
		either, _ := Either(a, b)
		swapped, err := Both(shuffled(r, b), shuffled(r, a))
		wantMachine(t, "Both, swapped", swapped, err, both)
		swapped, err = Either(shuffled(r, b), shuffled(r, a))
		wantMachine(t, "Either, swapped", swapped, err, either)
		least, _ := Least(a)
		got, err := Both(a, either)
		wantMachine(t, "Both of a and (a or b)", got, err, least)
		got, err = Either(both, a)
		wantMachine(t, "Either of (a and b) and a", got, err, least)
	}
}

// begun is a machine over two letters: letter 1 leads from its Start into a cycle, around which letter 0 leads, with End at one place.
func begun(states int) api.Machine {
	m := cycle(2, states+1, atZero)
	m.Start = states
	m.Next[states-1][0] = 0
	m.Next[states] = []int{nowhere, 0}
	return m
}

func TestBothIsLimited(t *testing.T) {
	// States of a and b, told apart by letters of their own, which no word of both has.
	own := func(states, letter int) api.Machine {
		m := cycle(3, states, always)
		m.Next[0][letter] = 0
		return m
	}
	want := machine(3, "*[0 -1 -1]")
	got, err := Both(own(32, 1), own(625, 2))
	wantMachine(t, "Both with 20000 pairs", got, err, want)
	got, err = Both(own(113, 1), own(177, 2))
	wantNone(t, "Both with 20001 pairs", got, err, api.ErrFull)
	// Pairs of other states than the least ones do not count, nor those that have no part in least machines.
	got, err = Both(cycle(3, 113, always), cycle(3, 177, always))
	wantMachine(t, "Both of cycles that are not least", got, err, want)
	got, err = Both(cycle(1, 32, atZero), cycle(1, 125, atZero))
	wantMachine(t, "Both with a cycle of 4000 states", got, err, cycle(1, api.MaxStates, atZero))
	got, err = Both(begun(32), begun(125))
	wantNone(t, "Both with 4001 states", got, err, api.ErrFull)
	got, err = Both(begun(31), begun(129))
	if err != api.OK || len(got.Next) != api.MaxStates {
		t.Errorf("Both with 4000 states: %d, %d", len(got.Next), err)
	}
	got, err = Both(cycle(1, 4000, atZero), cycle(1, 3999, atZero))
	wantNone(t, "Both with sixteen million pairs", got, err, api.ErrFull)
}

// branches is a machine over four letters: letter 0 leads around a cycle, all of whose states have End; from each of them letter free leads to where all words are accepted, and letter own does so from one state alone; letter 3 leads into a chain of states with End.
func branches(states, own, free, chain int) api.Machine {
	m := cycle(4, states+1+chain, always)
	for state, row := range m.Next {
		switch {
		case state < states:
			row[0] = (state + 1) % states
			row[free] = states
			if chain > 0 {
				row[3] = states + 1
			}
		case state == states:
			row[0], row[1], row[2], row[3] = state, state, state, state
		default:
			row[0], row[3] = nowhere, state+1
			if state == states+chain {
				row[3] = nowhere
			}
		}
	}
	m.Next[0][own] = states
	return m
}

// For Either the pairs of a state and nowhere count, too: here three (one of both, and two with nowhere) and those of the chain.
func TestEitherIsLimited(t *testing.T) {
	for _, x := range []struct {
		chain int
		err   api.Errno
	}{{0, api.OK}, {17, api.OK}, {18, api.ErrFull}} {
		a, b := branches(148, 1, 2, x.chain), branches(135, 2, 1, 0)
		if n := len(plainPairs(plainLeast(a), plainLeast(b))); n != 148*135+3+x.chain {
			t.Fatalf("%d pairs", n)
		}
		got, err := Either(a, b)
		if err != x.err {
			t.Errorf("Either with %d pairs: %d; want %d", 148*135+3+x.chain, err, x.err)
		}
		if err == api.OK && len(got.Next) > 2+x.chain {
			t.Errorf("Either: %d states", len(got.Next))
		}
	}
}

func TestEitherHasAtMostAllStates(t *testing.T) {
	got, err := Either(cycle(1, 32, atZero), cycle(1, 125, atZero))
	if err != api.OK || len(got.Next) != api.MaxStates {
		t.Errorf("Either with %d states: %d, %d", api.MaxStates, len(got.Next), err)
	}
	got, err = Either(begun(32), begun(125))
	wantNone(t, "Either with 4001 states", got, err, api.ErrFull)
	got, err = Either(begun(31), begun(129))
	if err != api.OK || len(got.Next) != api.MaxStates {
		t.Errorf("Either with %d states: %d, %d", api.MaxStates, len(got.Next), err)
	}
}
