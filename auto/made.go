package auto

import (
	"doppelganger/api"
	"doppelganger/found"
)

// Both returns a machine that accepts the words that both accept.
func Both(a, b api.Machine) (api.Machine, api.Errno) {
	return together(a, b, func(inA, inB bool) bool { return inA && inB })
}

// Either returns a machine that accepts the words that one of both accepts.
func Either(a, b api.Machine) (api.Machine, api.Errno) {
	return together(a, b, func(inA, inB bool) bool { return inA || inB })
}

// together returns the least machine of the words that a rule takes, which is told of each word whether a and b accept it. The rule is asked of states, too, whether they are there: in least machines each state accepts some word, and from nowhere none is accepted, so a pair that the rule does not take accepts no word that it takes.
func together(a, b api.Machine, takes func(inA, inB bool) bool) (api.Machine, api.Errno) {
	if err := fit(a, b); err != api.OK {
		return api.Machine{}, err
	}
	a, b = least(a), least(b)
	counted := func(pair api.Pair) api.Pair {
		if !takes(pair.A != nowhere, pair.B != nowhere) {
			return nowherePair()
		}
		return pair
	}
	first := counted(starts(a, b))
	if first == nowherePair() {
		return api.Machine{Letters: a.Letters, Start: nowhere}, api.OK
	}
	pairs, rows, all := found.Search(first, nowherePair(), a.Letters, api.MaxInner, func(pair api.Pair, letter int) api.Pair {
		return counted(leadPair(a, b, pair, letter))
	})
	if !all {
		return api.Machine{}, api.ErrFull
	}
	end := make([]bool, len(pairs))
	for number, pair := range pairs {
		end[number] = takes(ends(a, pair.A), ends(b, pair.B))
	}
	m := least(api.Machine{Letters: a.Letters, Next: rows, End: end})
	if len(m.Next) > api.MaxStates {
		return api.Machine{}, api.ErrFull
	}
	return m, api.OK
}
