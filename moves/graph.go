package moves

import (
	"doppelganger/api"
	"doppelganger/found"
)

// mostOthers is how many moves the other side can make in a situation at the most: answers, and questions about arguments.
const mostOthers = api.Width + api.MaxArgs

// exchange is a move of the other side and the next one of the piece, as letters. Both are 0 where the piece makes none: this letter is the question about the piece, which is not its own move.
type exchange struct {
	asked, said int
}

// habit is what a piece does in a situation: an exchange for each move that the other side can make, by the number of that.
type habit [mostOthers]exchange

// graph is what is found of the situations that come up in plays.
type graph struct {
	*runner
	letter map[api.Move]int
	habits []habit // of the situations
}

func newGraph(r *runner, all []api.Move) graph {
	g := graph{runner: r, letter: map[api.Move]int{}}
	for number, move := range all {
		g.letter[move] = number
	}
	return g
}

// explore finds the situations from the first one on, and their habits. It returns to which situations the moves of the other side lead from each, by their numbers.
func (g *graph) explore(first situation) [][]int {
	_, rows, all := found.Search(first, situation{at: over}, mostOthers, api.MaxStates, g.follow)
	if !all {
		panic(excess{})
	}
	return rows
}

// follow notes what comes of a move of the other side, and returns the next situation. It is called for the moves in one situation after another, from the first move on.
func (g *graph) follow(now situation, number int) situation {
	if number == 0 {
		g.habits = append(g.habits, habit{})
	}
	others := g.others(now)
	if number >= len(others) {
		return situation{at: over}
	}
	said, next, moves := g.row(now, others[number])
	if moves {
		g.habits[len(g.habits)-1][number] = exchange{g.letter[others[number]], g.letter[said]}
	}
	return next
}
