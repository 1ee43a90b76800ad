package auto

import (
	"iter"
	"math/bits"

	"doppelganger/api"
	"doppelganger/found"
)

// Hide returns a machine that accepts the accepted words without some letters.
func Hide(m api.Machine, hidden []bool) (api.Machine, api.Errno) {
	if Valid(m) != api.OK || len(hidden) != m.Letters {
		return api.Machine{}, api.ErrArg
	}
	m = least(m)
	if m.Start == nowhere {
		return m, api.OK
	}
	quiet := reaches(m, hidden)
	columns := byLetter(m)
	sets, rows, all := found.Search(quiet[m.Start].set, states{}, m.Letters, api.MaxStates, func(from states, letter int) states {
		var to states
		if hidden[letter] {
			return to
		}
		for state := range from.members() {
			if next := columns[letter][state]; next != nowhere && !to.has(next) {
				quiet[next].addTo(&to)
			}
		}
		return to
	})
	if !all {
		return api.Machine{}, api.ErrFull
	}
	end := make([]bool, len(sets))
	for number, set := range sets {
		for state := range set.members() {
			end[number] = end[number] || m.End[state]
		}
	}
	return least(api.Machine{Letters: m.Letters, Next: rows, End: end}), api.OK
}

// byLetter returns the next states by letter, then state: sets are followed by one letter at a time.
func byLetter(m api.Machine) [][]int {
	columns := make([][]int, m.Letters)
	for letter := range columns {
		columns[letter] = make([]int, len(m.Next))
		for state, row := range m.Next {
			columns[letter][state] = row[letter]
		}
	}
	return columns
}

// states is a set of states of a valid machine, a bit for each.
type states [(api.MaxStates + 63) / 64]uint64

// has reports whether a state is in the set.
func (s *states) has(state int) bool {
	return s[state/64]>>(state%64)&1 != 0
}

// add puts a state into the set.
func (s *states) add(state int) {
	s[state/64] |= 1 << (state % 64)
}

// members returns the states of the set.
func (s *states) members() iter.Seq[int] {
	return func(yield func(int) bool) {
		for at, word := range s {
			for ; word != 0; word &= word - 1 {
				if !yield(64*at + bits.TrailingZeros64(word)) {
					return
				}
			}
		}
	}
}

// reach is what is found from a state by hidden letters alone, and this state. It lies between two words of the set, which are all that is looked at: mostly they are few.
type reach struct {
	set       states
	low, high int
}

// bound finds the words between which the reach lies.
func (r *reach) bound() {
	r.low, r.high = 0, len(r.set)-1
	for r.low < r.high && r.set[r.low] == 0 {
		r.low++
	}
	for r.low < r.high && r.set[r.high] == 0 {
		r.high--
	}
}

// addTo puts all of the reach into a set.
func (r *reach) addTo(set *states) {
	for at := r.low; at <= r.high; at++ {
		set[at] |= r.set[at]
	}
}

// reaches returns the reach of each state: at first by one hidden letter at most, then on through one more state at a time.
func reaches(m api.Machine, hidden []bool) []reach {
	all := make([]reach, len(m.Next))
	for state, row := range m.Next {
		all[state].set.add(state)
		for letter, next := range row {
			if hidden[letter] && next != nowhere {
				all[state].set.add(next)
			}
		}
	}
	for through := range all {
		all[through].bound()
		for state := range all {
			if all[state].set.has(through) {
				all[through].addTo(&all[state].set)
			}
		}
	}
	for state := range all {
		all[state].bound()
	}
	return all
}
