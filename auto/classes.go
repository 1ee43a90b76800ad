package auto

import "doppelganger/api"

// partition divides states into classes. The states of a class stand side by side in the row, those that are marked ahead of the others.
type partition struct {
	row    []int
	place  []int // of each state: where it stands in the row
	class  []int // of each state; nowhere if it is in none
	begin  []int // of each class: where it begins in the row
	end    []int // of each class: where it ends
	marked []int // of each class: how many of its states are marked
}

// one returns a state of a class.
func (p *partition) one(class int) int {
	return p.row[p.begin[class]]
}

// mark marks a state that is not marked, and reports whether it is the first one of its class.
func (p *partition) mark(state int) bool {
	class := p.class[state]
	from := p.place[state]
	to := p.begin[class] + p.marked[class]
	other := p.row[to]
	p.row[from], p.place[other] = other, from
	p.row[to], p.place[state] = state, to
	p.marked[class]++
	return p.marked[class] == 1
}

// split divides a class into its marked states and the others, and reports whether there are both. The fewer ones become a class of their own, the last one: so a state changes its class seldom.
func (p *partition) split(class int) bool {
	begin, end := p.begin[class], p.end[class]
	middle := begin + p.marked[class]
	p.marked[class] = 0
	if middle == end {
		return false
	}
	if middle-begin <= end-middle {
		p.begin[class] = middle
		p.add(begin, middle)
	} else {
		p.end[class] = middle
		p.add(middle, end)
	}
	return true
}

// add makes a part of the row a class.
func (p *partition) add(begin, end int) {
	for _, state := range p.row[begin:end] {
		p.class[state] = len(p.begin)
	}
	p.begin = append(p.begin, begin)
	p.end = append(p.end, end)
	p.marked = append(p.marked, 0)
}

// classes divides the states that are alive into classes from whose states the same words are accepted. Each class, once it has come up, is looked at once: the ways into it divide the others. Of two halves of a class that was looked at, the smaller one is enough, as the whole and it determine the other one.
func classes(m api.Machine, into [][]arrival, alive []bool) *partition {
	p := byEnd(m, alive)
	sources := make([][]int, m.Letters)
	var toLook []int
	for class := range p.begin {
		toLook = append(toLook, class)
	}
	for len(toLook) > 0 {
		class := toLook[len(toLook)-1]
		toLook = toLook[:len(toLook)-1]
		for _, letter := range gather(p.row[p.begin[class]:p.end[class]], into, sources) {
			toLook = append(toLook, p.divide(sources[letter])...)
			sources[letter] = sources[letter][:0]
		}
	}
	return p
}

// byEnd divides the states that are alive into those with End and those without.
func byEnd(m api.Machine, alive []bool) *partition {
	p := &partition{place: make([]int, len(alive)), class: make([]int, len(alive))}
	for _, end := range []bool{true, false} {
		begin := len(p.row)
		for state := range alive {
			if alive[state] && m.End[state] == end {
				p.place[state] = len(p.row)
				p.row = append(p.row, state)
			}
		}
		if begin < len(p.row) {
			p.add(begin, len(p.row))
		}
	}
	for state := range alive {
		if !alive[state] {
			p.class[state] = nowhere
		}
	}
	return p
}

// gather puts into sources, for each letter, the states from which it leads to some states, and returns the letters that do.
func gather(states []int, into [][]arrival, sources [][]int) []int {
	var letters []int
	for _, state := range states {
		for _, way := range into[state] {
			if len(sources[way.letter]) == 0 {
				letters = append(letters, way.letter)
			}
			sources[way.letter] = append(sources[way.letter], way.from)
		}
	}
	return letters
}

// divide splits all classes that have some of the states, and others, and returns the new classes.
func (p *partition) divide(states []int) []int {
	var touched []int
	for _, state := range states {
		if p.mark(state) {
			touched = append(touched, p.class[state])
		}
	}
	var fresh []int
	for _, class := range touched {
		if p.split(class) {
			fresh = append(fresh, len(p.begin)-1)
		}
	}
	return fresh
}
