package moves

import (
	"math/bits"

	"doppelganger/api"
	"doppelganger/auto"
	"doppelganger/found"
	"doppelganger/lang"
)

// maker makes the machine of the plays of a piece. Between two situations the machine has a state in which the piece is about to make its move, so that it may have more states than package auto takes until it is least. So first the situations alone are made fewer: those in which the piece does the same from then on are a class.
type maker struct {
	graph
	kinds   []habit     // those that there are, each once
	classes api.Machine // its letters are the moves of the other side by their numbers, and then marks that tell the kind of habit
	first   state       // behind the question about the piece
}

// state is a state of the machine.
type state struct {
	says  int // the letter of the move that the piece is about to make, or silent
	class int // of the situation that it is in, or will be in behind this move
}

// silent is the letter that no move of the piece has: that of the question about it.
const silent = 0

// What stands in the place of a class.
const (
	finished = -1 - iota // no move comes any more
	opening              // the question about the piece comes
	noState              // it is no state
)

func newMaker(p *lang.Piece) *maker {
	return &maker{graph: newGraph(newRunner(p), letters(p.Decls(), p.Type()))}
}

// machine returns the least machine of the plays.
func (m *maker) machine() api.Machine {
	said, now, moves := m.row(situation{at: ahead}, question())
	if !moves {
		return api.Machine{Letters: len(m.letter), Start: nowhere}
	}
	m.first = state{m.letter[said], finished}
	if now.at != over {
		m.classify(m.explore(now))
		m.first.class = m.settled(0)
	}
	states, rows, all := found.Search(state{class: opening}, state{class: noState}, len(m.letter), api.MaxStates, m.lead)
	if !all {
		panic(excess{})
	}
	end := make([]bool, len(states))
	for number, s := range states {
		end[number] = s.says == silent && s.class != opening
	}
	return least(rows, end, len(m.letter))
}

// classify finds the classes of the situations, of which it is told to which of them the moves of the other side lead. The marks are the digits of the number of the kind of habit.
func (m *maker) classify(rows [][]int) {
	number := map[habit]int{}
	for _, h := range m.habits {
		if _, known := number[h]; !known {
			number[h] = len(m.kinds)
			m.kinds = append(m.kinds, h)
		}
	}
	marks := bits.Len(uint(len(m.kinds)))
	end := make([]bool, len(rows))
	for at := range rows {
		end[at] = true
		for mark := range marks {
			next := nowhere
			if number[m.habits[at]]>>mark&1 == 1 {
				next = at
			}
			rows[at] = append(rows[at], next)
		}
	}
	m.classes = least(rows, end, mostOthers+marks)
}

// habitOf returns the habit of the situations of a class.
func (m *maker) habitOf(class int) habit {
	number := 0
	for mark, next := range m.classes.Next[class][mostOthers:] {
		if next != nowhere {
			number |= 1 << mark
		}
	}
	return m.kinds[number]
}

// settled returns a class, or that nothing comes any more, if that is so of its situations.
func (m *maker) settled(class int) int {
	if class == nowhere || m.habitOf(class) == (habit{}) {
		return finished
	}
	return class
}

// lead returns where a letter leads. States are told apart only by what comes then, so as many are found as the least machine has.
func (m *maker) lead(from state, letter int) state {
	switch {
	case from.says != silent:
		if letter == from.says {
			return state{class: from.class}
		}
	case from.class == opening:
		if letter == m.letter[question()] {
			return m.first
		}
	case from.class != finished:
		for number, e := range m.habitOf(from.class) {
			if e.said != silent && e.asked == letter {
				return state{e.said, m.settled(m.classes.Next[from.class][number])}
			}
		}
	}
	return state{class: noState}
}

// least returns the least machine of one whose first state is the start.
func least(rows [][]int, end []bool, letters int) api.Machine {
	m, _ := auto.Least(api.Machine{Letters: letters, Next: rows, End: end})
	return m
}
