package auto

import (
	"math/rand"
	"testing"

	"doppelganger/api"
)

func TestLeast(t *testing.T) {
	other := machine(1, "[0], *[0]")
	other.Start = 1
	for _, x := range []struct {
		m    api.Machine
		want api.Machine
	}{
		{machine(1, "*[1], [2], *[1]"), even()},
		{even(), even()},
		{machine(2, "[1 0], [-1 1]"), machine(2, "")},
		{machine(2, ""), machine(2, "")},
		{machine(0, ""), machine(0, "")},
		{machine(0, "[]"), machine(0, "")},
		{machine(0, "*[], []"), machine(0, "*[]")},
		{machine(1, "*[0], [0]"), all()},
		{machine(1, "*[1], *[2], *[0]"), all()},
		{machine(1, "*[1], [1]"), machine(1, "*[-1]")},
		{machine(2, "[2 1], *[-1 -1], [-1 3], *[3 -1]"), machine(2, "[1 2], [-1 3], *[-1 -1], *[3 -1]")},
		{machine(2, "[1 2], [2 1], *[-1 2]"), machine(2, "[1 2], [2 1], *[-1 2]")},
		{machine(2, "[2 1], *[-1 1], [1 2]"), machine(2, "[1 2], [2 1], *[-1 2]")},
		{machine(2, "*[1 2], *[0 2], [2 2]"), machine(2, "*[0 -1]")},
		{machine(2, "*[1 -1], *[0 2], [2 2]"), machine(2, "*[0 -1]")},
		{other, machine(1, "*[-1]")},
	} {
		got, err := Least(x.m)
		wantMachine(t, "Least of "+text(x.m), got, err, x.want)
	}
}

func TestLeastOfAnyMachine(t *testing.T) {
	r := rand.New(rand.NewSource(3))
	for range 3000 {
		m := anyMachine(r, r.Intn(4), 9)
		got, err := Least(m)
		wantMachine(t, "Least of "+text(m), got, err, plainLeast(m))
		words(m.Letters, 4, func(word []int) bool {
			if Accepts(got, word) != walk(m, word) {
				t.Errorf("Least of %s: %s, another answer to %v", text(m), text(got), word)
				return false
			}
			return true
		})
		again, err := Least(shuffled(r, m))
		wantMachine(t, "Least of the same in another order", again, err, got)
	}
}

// Machines that are least, but for the order of their states, and doubled states, which need many rounds.
func TestLeastOfLongMachines(t *testing.T) {
	r := rand.New(rand.NewSource(4))
	chain := api.Machine{Letters: 2}
	for state := range 1500 {
		next := state + 1
		if state == 1499 {
			next = nowhere
		}
		chain.Next = append(chain.Next, []int{next, next})
		chain.End = append(chain.End, next == nowhere)
	}
	for name, m := range map[string]api.Machine{"a chain": chain, "a cycle": cycle(2, 1999, atZero)} {
		doubled := clone(m)
		for state, row := range m.Next {
			twin := copied(row)
			if twin[0] != nowhere && r.Intn(2) == 0 {
				twin[0] += len(m.Next)
			}
			doubled.Next = append(doubled.Next, twin)
			doubled.End = append(doubled.End, m.End[state])
			doubled.Next[state][0] = twin[0]
		}
		got, err := Least(shuffled(r, doubled))
		wantMachine(t, "Least of "+name, got, err, m)
	}
}

func TestLeastOfGreatMachines(t *testing.T) {
	great := cycle(api.MaxSigns, api.MaxStates, atZero)
	for state, row := range great.Next {
		for letter := 1; letter < api.MaxSigns; letter++ {
			row[letter] = (state*letter + letter) % api.MaxStates
		}
	}
	got, err := Least(great)
	if err != api.OK || len(got.Next) == 0 || len(got.Next) > api.MaxStates || Valid(got) != api.OK {
		t.Fatalf("Least: %d states, %d", len(got.Next), err)
	}
	if _, _, err := Differ(great, got); err != api.ErrSame {
		t.Errorf("Least accepts other words: %d", err)
	}
}
