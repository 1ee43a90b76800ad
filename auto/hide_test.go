package auto

import (
	"math/rand"
	"testing"

	"doppelganger/api"
)

func TestHide(t *testing.T) {
	for _, x := range []struct {
		m      api.Machine
		hidden []bool
		want   api.Machine
	}{
		{machine(2, "[1 -1], [-1 2], *[-1 -1]"), flagged(true, false), machine(2, "[-1 1], *[-1 -1]")},
		{machine(2, "[1 -1], [-1 2], *[-1 -1]"), flagged(false, true), machine(2, "[1 -1], *[-1 -1]")},
		{machine(2, "[1 -1], [-1 2], *[-1 -1]"), flagged(true, true), machine(2, "*[-1 -1]")},
		{machine(2, "[1 -1], [-1 2], *[-1 -1]"), flagged(false, false), machine(2, "[1 -1], [-1 2], *[-1 -1]")},
		{even(), flagged(true), machine(1, "*[-1]")},
		{even(), flagged(false), even()},
		{machine(1, "*[1], [2], *[1]"), flagged(false), even()},
		{machine(1, ""), flagged(true), machine(1, "")},
		{machine(1, "[0]"), flagged(true), machine(1, "")},
		{machine(0, "*[], []"), nil, machine(0, "*[]")},
		{machine(0, "*[]"), []bool{}, machine(0, "*[]")},
		// A hidden letter that leads back, and one that leads into a state without words.
		{machine(2, "[1 2], [0 2], *[2 -1]"), flagged(true, false), machine(2, "[-1 1], *[-1 -1]")},
		{machine(2, "[1 2], [1 1], *[-1 0]"), flagged(true, false), machine(2, "[-1 1], *[-1 0]")},
		// The first state accepts if hidden letters alone lead on to an end.
		{machine(2, "[1 -1], [2 -1], *[-1 2]"), flagged(true, false), machine(2, "*[-1 0]")},
		// A letter leads from a set to several states, and another one on from each of them.
		{machine(3, "[1 2 -1], [-1 3 -1], [-1 -1 4], *[-1 -1 3], *[-1 4 -1]"), flagged(true, false, false), machine(3, "[-1 1 -1], *[-1 -1 2], *[-1 3 4], *[-1 3 -1], *[-1 -1 4]")},
	} {
		got, err := Hide(x.m, x.hidden)
		wantMachine(t, "Hide of "+text(x.m), got, err, x.want)
	}
}

func TestHideRefuses(t *testing.T) {
	for _, hidden := range [][]bool{nil, {}, flags(1), flags(3)} {
		got, err := Hide(machine(2, "*[0 0]"), hidden)
		wantNone(t, "Hide with other letters", got, err, api.ErrArg)
		got, err = Hide(machine(2, ""), hidden)
		wantNone(t, "Hide with other letters, no states", got, err, api.ErrArg)
	}
	got, err := Hide(machine(0, "*[]"), flags(1))
	wantNone(t, "Hide without letters", got, err, api.ErrArg)
}

func TestHideOfAnyMachine(t *testing.T) {
	r := rand.New(rand.NewSource(12))
	for range 3000 {
		m := anyMachine(r, r.Intn(4), 7)
		hidden := flags(m.Letters)
		for letter := range hidden {
			hidden[letter] = r.Intn(2) == 0
		}
		got, err := Hide(m, hidden)
		if err != api.OK {
			t.Fatalf("Hide of %s: %d", text(m), err)
		}
		isOf(t, "Hide of "+text(m), got, 5, func(word []int) bool { return plainHidden(m, hidden, word) })
	}
}

// Letters may be hidden in any order, or at once.
func TestHideLaws(t *testing.T) {
	r := rand.New(rand.NewSource(13))
	for range 500 {
		m := anyMachine(r, 4, 8)
		first := []bool{true, false, r.Intn(2) == 0, false}
		second := []bool{false, true, r.Intn(2) == 0, false}
		at := []bool{true, true, first[2] || second[2], false}
		want, _ := Hide(m, at)
		one, _ := Hide(m, first)
		got, err := Hide(one, second)
		wantMachine(t, "Hide of Hide", got, err, want)
		other, _ := Hide(m, second)
		got, err = Hide(shuffled(r, other), first)
		wantMachine(t, "Hide of Hide, in the other order", got, err, want)
	}
}

// two is a machine over three letters: letters 1 and 2 lead into one of two cycles, around which letter 0 leads, with End at one place.
func two(a, b int) api.Machine {
	m := cycle(3, 1+a+b, func(state int) bool { return state == 1 || state == 1+a })
	m.Next[0] = []int{nowhere, 1, 1 + a}
	m.Next[a][0] = 1
	m.Next[a+b][0] = 1 + a
	return m
}

func TestHideIsLimited(t *testing.T) {
	hidden := flagged(false, true, true)
	// One set at first, and then one for each pair of states of both cycles.
	got, err := Hide(two(31, 129), hidden)
	want := cycle(3, 31*129, func(state int) bool { return state%31 == 0 || state%129 == 0 })
	wantMachine(t, "Hide with 4000 sets", got, err, want)
	got, err = Hide(two(32, 125), hidden)
	wantNone(t, "Hide with 4001 sets", got, err, api.ErrFull)
	got, err = Hide(two(61, 67), hidden)
	wantNone(t, "Hide with 4088 sets", got, err, api.ErrFull)
	// The sets are those of states of the least machine, which is small if all states have End.
	small := two(61, 67)
	for state := range small.End {
		small.End[state] = true
	}
	got, err = Hide(small, hidden)
	wantMachine(t, "Hide of a machine that is not least", got, err, machine(3, "*[0 -1 -1]"))
	if n := plainSets(two(3, 5), hidden); n != 16 {
		t.Errorf("%d sets", n)
	}
}

func TestHideCountsSets(t *testing.T) {
	// From a loop a hidden letter leads out, to letter 1 and to n - 1 letters more: a set has the places of all last n letters that were 1.
	last := func(n int) api.Machine {
		m := api.Machine{Letters: 3}
		for state := range n + 1 {
			next := state + 1
			if state == n {
				next = nowhere
			}
			m.Next = append(m.Next, []int{next, next, nowhere})
			m.End = append(m.End, state == n)
		}
		m.Next[0] = []int{0, 0, nowhere}
		m.Next = append(m.Next, []int{nowhere, 1, nowhere})
		m.End = append(m.End, false)
		m.Next[0][2] = n + 1
		return m
	}
	hidden := flagged(false, false, true)
	for n := 1; n <= 7; n++ {
		got, err := Hide(last(n), hidden)
		if err != api.OK || len(got.Next) != 1<<n || plainSets(last(n), hidden) != 1<<n {
			t.Errorf("Hide of %d states: %d states, %d", n+2, len(got.Next), err)
		}
	}
	got, err := Hide(last(11), hidden)
	if err != api.OK || len(got.Next) != 1<<11 {
		t.Errorf("Hide: %d states, %d", len(got.Next), err)
	}
	got, err = Hide(last(12), hidden)
	wantNone(t, "Hide with 4096 sets", got, err, api.ErrFull)
}

// Great sets, which overlap: the ways by hidden letters alone lead through all states.
func TestHideOfLongWays(t *testing.T) {
	m := api.Machine{Letters: 3}
	for state := range api.MaxStates {
		next := state + 1
		if next == api.MaxStates {
			next = nowhere
		}
		m.Next = append(m.Next, []int{next, next, state})
		m.End = append(m.End, next == nowhere)
	}
	got, err := Hide(m, flagged(false, true, false))
	want := clone(m)
	for state, row := range want.Next {
		row[1] = nowhere
		want.End[state] = true
	}
	wantMachine(t, "Hide of a chain", got, err, want)
	got, err = Hide(m, flagged(true, true, false))
	wantMachine(t, "Hide of a chain, one letter left", got, err, machine(3, "*[-1 -1 0]"))
}
