package auto

import (
	"slices"

	"doppelganger/api"
	"doppelganger/found"
)

// nowherePair is the pair of nowhere and nowhere: what follows it is always the same.
func nowherePair() api.Pair {
	return api.Pair{A: nowhere, B: nowhere}
}

// starts returns the pair of the Starts of two machines.
func starts(a, b api.Machine) api.Pair {
	return api.Pair{A: a.Start, B: b.Start}
}

// leadPair returns where a letter leads from a pair of states.
func leadPair(a, b api.Machine, pair api.Pair, letter int) api.Pair {
	return api.Pair{A: lead(a, pair.A, letter), B: lead(b, pair.B, letter)}
}

// agree reports whether both states of a pair have End, or neither.
func agree(a, b api.Machine, pair api.Pair) bool {
	return ends(a, pair.A) == ends(b, pair.B)
}

// Differ returns the first word, by length and order, that one of two machines accepts alone, and whether it is the first machine.
func Differ(a, b api.Machine) (word []int, first bool, err api.Errno) {
	if err := fit(a, b); err != api.OK {
		return nil, false, err
	}
	word, pair, differ := difference(a, b)
	if !differ {
		return nil, false, api.ErrSame
	}
	return word, ends(a, pair.A), api.OK
}

// trail is a pair of states, and how it was found: by a letter from the pair of the trail before.
type trail struct {
	pair           api.Pair
	before, letter int
}

// difference returns the first word by which two machines with the same letters come to a pair that does not agree, and this pair. A pair whose states were joined before is passed over: a word that tells them apart also tells apart the states of one of the pairs that joined them, and that one was found by an earlier word.
func difference(a, b api.Machine) (word []int, pair api.Pair, differ bool) {
	pair = starts(a, b)
	if !agree(a, b, pair) {
		return nil, pair, true
	}
	j := newJoined(len(a.Next), len(b.Next))
	j.join(pair)
	trails := []trail{{pair: pair}}
	for at := 0; at < len(trails); at++ {
		for letter := range a.Letters {
			pair = leadPair(a, b, trails[at].pair, letter)
			if !j.join(pair) {
				continue
			}
			trails = append(trails, trail{pair, at, letter})
			if !agree(a, b, pair) {
				return wordOf(trails), pair, true
			}
		}
	}
	return nil, api.Pair{}, false
}

// wordOf returns the word by which the last pair was found.
func wordOf(trails []trail) []int {
	var word []int
	for at := len(trails) - 1; at > 0; at = trails[at].before {
		word = append(word, trails[at].letter)
	}
	slices.Reverse(word)
	return word
}

// joined keeps which states of two machines must accept the same words if both machines do: those that are joined by pairs. Nowhere is a state of both: number 0, ahead of the states of A, and then those of B.
type joined struct {
	states int   // of A
	next   []int // for each state another one that is joined to it, or itself
}

func newJoined(a, b int) *joined {
	j := &joined{states: a, next: make([]int, 1+a+b)}
	for number := range j.next {
		j.next[number] = number
	}
	return j
}

// end returns the state to which all that are joined to a state lead.
func (j *joined) end(number int) int {
	for j.next[number] != number {
		j.next[number] = j.next[j.next[number]]
		number = j.next[number]
	}
	return number
}

// join joins the states of a pair, and reports whether they were not joined before.
func (j *joined) join(pair api.Pair) bool {
	one := 1 + pair.A
	other := 0
	if pair.B != nowhere {
		other = 1 + j.states + pair.B
	}
	one, other = j.end(one), j.end(other)
	j.next[one] = other
	return one != other
}

// Relate returns pairs of states that show that two machines accept the same words.
func Relate(a, b api.Machine) ([]api.Pair, api.Errno) {
	if err := fit(a, b); err != api.OK {
		return nil, err
	}
	if _, _, differ := difference(a, b); differ {
		return nil, api.ErrApart
	}
	if starts(a, b) == nowherePair() {
		return nil, api.OK
	}
	pairs, _, all := found.Search(starts(a, b), nowherePair(), a.Letters, api.MaxInner, func(pair api.Pair, letter int) api.Pair {
		return leadPair(a, b, pair, letter)
	})
	if !all {
		return nil, api.ErrFull
	}
	slices.SortFunc(pairs, inOrder)
	return pairs, api.OK
}

// inOrder compares pairs by A, then B.
func inOrder(p, q api.Pair) int {
	if p.A != q.A {
		return p.A - q.A
	}
	return p.B - q.B
}

// Check reports whether pairs of states show that two machines accept the same words.
func Check(a, b api.Machine, pairs []api.Pair) api.Errno {
	if err := fit(a, b); err != api.OK {
		return err
	}
	if !isRelation(a, b, pairs) {
		return api.ErrForm
	}
	if !shows(a, b, pairs) {
		return api.ErrApart
	}
	return api.OK
}

// isRelation reports whether pairs are a relation of two machines, in its form.
func isRelation(a, b api.Machine, pairs []api.Pair) bool {
	last := nowherePair()
	for _, pair := range pairs {
		if pair.A < nowhere || pair.A >= len(a.Next) || pair.B < nowhere || pair.B >= len(b.Next) {
			return false
		}
		// The pair of nowhere and nowhere is the least of all, so it is never behind another one.
		if inOrder(last, pair) >= 0 {
			return false
		}
		last = pair
	}
	return true
}

// shows reports whether a relation of two machines shows that both accept the same words.
func shows(a, b api.Machine, pairs []api.Pair) bool {
	width := 1 + len(b.Next)
	place := func(pair api.Pair) int {
		return (1+pair.A)*width + 1 + pair.B
	}
	there := make([]bool, (1+len(a.Next))*width)
	there[place(nowherePair())] = true
	for _, pair := range pairs {
		there[place(pair)] = true
	}
	if !there[place(starts(a, b))] {
		return false
	}
	for _, pair := range pairs {
		if !agree(a, b, pair) {
			return false
		}
		for letter := range a.Letters {
			if !there[place(leadPair(a, b, pair, letter))] {
				return false
			}
		}
	}
	return true
}
