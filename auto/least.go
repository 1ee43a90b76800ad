package auto

import (
	"doppelganger/api"
	"doppelganger/found"
)

// Least returns the least machine that accepts the same words.
func Least(m api.Machine) (api.Machine, api.Errno) {
	if Valid(m) != api.OK {
		return api.Machine{}, api.ErrArg
	}
	return least(m), api.OK
}

// least does what Least does, also for machines with more states than valid ones have: machines of pairs get small only here.
func least(m api.Machine) api.Machine {
	into := arrivals(m)
	alive := living(m, into)
	if m.Start == nowhere || !alive[m.Start] {
		return api.Machine{Letters: m.Letters, Start: nowhere}
	}
	p := classes(m, into, alive)
	kept, rows, _ := found.Search(p.class[m.Start], nowhere, m.Letters, len(p.begin), func(class, letter int) int {
		next := m.Next[p.one(class)][letter]
		if next == nowhere {
			return nowhere
		}
		return p.class[next]
	})
	end := make([]bool, len(kept))
	for number, class := range kept {
		end[number] = m.End[p.one(class)]
	}
	return api.Machine{Letters: m.Letters, Next: rows, End: end}
}

// arrival is a way into a state: from a state, by a letter.
type arrival struct {
	from, letter int
}

// arrivals returns the ways into each state.
func arrivals(m api.Machine) [][]arrival {
	counts := make([]int, len(m.Next))
	for _, row := range m.Next {
		for _, next := range row {
			if next != nowhere {
				counts[next]++
			}
		}
	}
	into := make([][]arrival, len(m.Next))
	for state, count := range counts {
		into[state] = make([]arrival, 0, count)
	}
	for state, row := range m.Next {
		for letter, next := range row {
			if next != nowhere {
				into[next] = append(into[next], arrival{state, letter})
			}
		}
	}
	return into
}

// living tells of each state whether some word is accepted from it.
func living(m api.Machine, into [][]arrival) []bool {
	alive := make([]bool, len(m.Next))
	var known []int
	for state, end := range m.End {
		if end {
			alive[state] = true
			known = append(known, state)
		}
	}
	for at := 0; at < len(known); at++ {
		for _, way := range into[known[at]] {
			if !alive[way.from] {
				alive[way.from] = true
				known = append(known, way.from)
			}
		}
	}
	return alive
}
