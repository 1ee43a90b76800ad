package tell

import "doppelganger/api"

// The kinds of what is open: questions about the piece, about a name, and about an argument of a name.
const (
	aboutPiece = iota
	aboutName
	aboutArgument
)

// question is what is asked, or answered, by a move.
type question struct {
	kind int
	name string
	arg  int
}

func questionOf(move api.Move) question {
	switch {
	case move.Name == "":
		return question{kind: aboutPiece}
	case move.Arg == 0:
		return question{kind: aboutName, name: move.Name}
	}
	return question{aboutArgument, move.Name, move.Arg}
}

// open is the row of questions that are open.
type open []question

// possible reports whether a row of moves is possible, all of which have to be letters.
func possible(letters, play []api.Move) bool {
	if len(play) == 0 || len(play)%2 == 1 || play[0] != (api.Move{}) {
		return false
	}
	known := map[api.Move]bool{}
	for _, letter := range letters {
		known[letter] = true
	}
	o := open{questionOf(play[0])}
	for at, move := range play[1:] {
		fits := o.piece
		if at%2 == 1 {
			fits = o.other
		}
		if !known[move] || !fits(move) {
			return false
		}
	}
	return true
}

// piece has the piece make a move, and reports whether it fits.
func (o *open) piece(move api.Move) bool {
	asked := questionOf(move)
	switch {
	case move.Fault:
		*o = nil
	case move.Answer:
		return asked.kind != aboutName && o.leave(asked)
	case asked.kind != aboutName:
		return false
	default:
		*o = append(*o, asked)
	}
	return true
}

// leave answers the last one of the open questions of a kind, if there is one. What was opened behind it is open no more.
func (o *open) leave(asked question) bool {
	for at := len(*o) - 1; at >= 0; at-- {
		if (*o)[at] == asked {
			*o = (*o)[:at]
			return true
		}
	}
	return false
}

// other has the other side make a move, and reports whether it fits: it hangs on the call that waits, which is the last open question, unless the play is over.
func (o *open) other(move api.Move) bool {
	asked := questionOf(move)
	last := len(*o) - 1
	if last < 0 || asked.name != (*o)[last].name {
		return false
	}
	switch {
	case asked.kind == aboutName && move.Answer:
		*o = (*o)[:last]
	case asked.kind == aboutArgument && !move.Answer:
		*o = append(*o, asked)
	default:
		return false
	}
	return true
}
