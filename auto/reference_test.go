package auto

import (
	"sort"

	"doppelganger/api"
)

// This file has plain ways to the same results, which follow the document word by word and take the time that they need.

// go1 is where a letter leads from a state, or nowhere.
func go1(m api.Machine, state, letter int) int {
	if state < 0 {
		return -1
	}
	return m.Next[state][letter]
}

// isEnd tells whether a state has End; nowhere has not.
func isEnd(m api.Machine, state int) bool {
	return state >= 0 && m.End[state]
}

// apart returns which states of a machine (nowhere as the last one) accept different words: those of which one has End, and those from which a letter leads to such ones.
func apart(m api.Machine) [][]bool {
	n := len(m.Next) + 1
	at := func(state int) int { return (state + n) % n }
	differ := make([][]bool, n)
	for i := range differ {
		differ[i] = make([]bool, n)
	}
	for again := true; again; {
		again = false
		for i := -1; i < n-1; i++ {
			for j := -1; j < n-1; j++ {
				now := isEnd(m, i) != isEnd(m, j)
				for letter := range m.Letters {
					now = now || differ[at(go1(m, i, letter))][at(go1(m, j, letter))]
				}
				if now && !differ[at(i)][at(j)] {
					differ[at(i)][at(j)] = true
					again = true
				}
			}
		}
	}
	return differ
}

// plainLeast is Least.
func plainLeast(m api.Machine) api.Machine {
	differ := apart(m)
	dead := func(state int) bool { return state < 0 || !differ[state][len(m.Next)] }
	least := api.Machine{Letters: m.Letters, Start: -1}
	if dead(m.Start) {
		return least
	}
	least.Start = 0
	order := []int{m.Start}
	for at := 0; at < len(order); at++ {
		row := make([]int, m.Letters)
		for letter := range row {
			row[letter] = -1
			next := go1(m, order[at], letter)
			if dead(next) {
				continue
			}
			for number, state := range order {
				if !differ[state][next] {
					row[letter] = number
				}
			}
			if row[letter] < 0 {
				row[letter] = len(order)
				order = append(order, next)
			}
		}
		least.Next = append(least.Next, row)
		least.End = append(least.End, m.End[order[at]])
	}
	return least
}

// plainPairs returns the pairs that are found from both Starts, in the order in which they are found.
func plainPairs(a, b api.Machine) []api.Pair {
	var found []api.Pair
	known := map[api.Pair]bool{{A: -1, B: -1}: true}
	put := func(pair api.Pair) {
		if !known[pair] {
			known[pair] = true
			found = append(found, pair)
		}
	}
	put(api.Pair{A: a.Start, B: b.Start})
	for at := 0; at < len(found); at++ {
		for letter := range a.Letters {
			put(api.Pair{A: go1(a, found[at].A, letter), B: go1(b, found[at].B, letter)})
		}
	}
	return found
}

// plainSame tells whether two machines accept the same words.
func plainSame(a, b api.Machine) bool {
	for _, pair := range plainPairs(a, b) {
		if isEnd(a, pair.A) != isEnd(b, pair.B) {
			return false
		}
	}
	return true
}

// plainRelation returns the pairs that are found, in the order of A, then B.
func plainRelation(a, b api.Machine) []api.Pair {
	pairs := plainPairs(a, b)
	sort.Slice(pairs, func(i, j int) bool {
		return pairs[i].A < pairs[j].A || pairs[i].A == pairs[j].A && pairs[i].B < pairs[j].B
	})
	return pairs
}

// plainCheck is Check of valid machines.
func plainCheck(a, b api.Machine, pairs []api.Pair) api.Errno {
	for i, pair := range pairs {
		if pair.A < -1 || pair.A >= len(a.Next) || pair.B < -1 || pair.B >= len(b.Next) || pair.A == -1 && pair.B == -1 {
			return api.ErrForm
		}
		if i > 0 && (pairs[i-1].A > pair.A || pairs[i-1].A == pair.A && pairs[i-1].B >= pair.B) {
			return api.ErrForm
		}
	}
	there := func(p, q int) bool {
		for _, pair := range pairs {
			if pair.A == p && pair.B == q {
				return true
			}
		}
		return p == -1 && q == -1
	}
	if !there(a.Start, b.Start) {
		return api.ErrApart
	}
	for _, pair := range pairs {
		if isEnd(a, pair.A) != isEnd(b, pair.B) {
			return api.ErrApart
		}
		for letter := range a.Letters {
			if !there(go1(a, pair.A, letter), go1(b, pair.B, letter)) {
				return api.ErrApart
			}
		}
	}
	return api.OK
}

// plainHidden tells whether a machine accepts a word into which hidden letters may be put anywhere: it follows all states at once.
func plainHidden(m api.Machine, hidden []bool, word []int) bool {
	now := map[int]bool{}
	var reach func(state int)
	reach = func(state int) {
		if state < 0 || now[state] {
			return
		}
		now[state] = true
		for letter := range m.Letters {
			if hidden[letter] {
				reach(m.Next[state][letter])
			}
		}
	}
	reach(m.Start)
	for _, letter := range word {
		if hidden[letter] {
			return false
		}
		from := now
		now = map[int]bool{}
		for state := range from {
			reach(m.Next[state][letter])
		}
	}
	for state := range now {
		if m.End[state] {
			return true
		}
	}
	return false
}

// plainSets returns how many sets that are not empty Hide finds.
func plainSets(m api.Machine, hidden []bool) int {
	m = plainLeast(m)
	if m.Start < 0 {
		return 0
	}
	grow := func(set map[int]bool) {
		for again := true; again; {
			again = false
			for state := range len(m.Next) {
				for letter := range m.Letters {
					next := m.Next[state][letter]
					if set[state] && hidden[letter] && next >= 0 && !set[next] {
						set[next] = true
						again = true
					}
				}
			}
		}
	}
	key := func(set map[int]bool) string {
		s := ""
		for state := range len(m.Next) {
			if set[state] {
				s += string(rune(state)) + ","
			}
		}
		return s
	}
	first := map[int]bool{m.Start: true}
	grow(first)
	known := map[string]bool{"": true, key(first): true}
	sets := []map[int]bool{first}
	for at := 0; at < len(sets); at++ {
		for letter := range m.Letters {
			if hidden[letter] {
				continue
			}
			set := map[int]bool{}
			for state := range sets[at] {
				if next := m.Next[state][letter]; next >= 0 {
					set[next] = true
				}
			}
			grow(set)
			if k := key(set); !known[k] {
				known[k] = true
				sets = append(sets, set)
			}
		}
	}
	return len(sets)
}
