package moves

import (
	"slices"

	"doppelganger/api"
	"doppelganger/lang"
	"doppelganger/numbers"
)

// What stands in the place of the call that waits, where none does.
const (
	ahead = -1 - iota // of the question about the piece
	over              // the play is, or goes no further
)

// situation is where a piece waits: for the answer to a call, with some values kept.
type situation struct {
	at     int
	values string
}

// runner runs the unfolded term of a piece, from move to move.
type runner struct {
	unfolded
	values []byte                  // of the variables that are open, and what else is kept, the innermost last
	asked  map[int]map[string]bool // of each While: the values with which it asked since it was begun, in this row
	said   api.Move                // the move that the row came to
}

func newRunner(p *lang.Piece) *runner {
	r := &runner{unfolded: unfold(p), asked: map[int]map[string]bool{}}
	if r.beyondBorder() {
		panic(excess{})
	}
	return r
}

// others returns the moves that the other side can make.
func (r *runner) others(now situation) []api.Move {
	switch now.at {
	case ahead:
		return []api.Move{question()}
	case over:
		return nil
	}
	decl := r.decls[r.places[now.at].of]
	return slices.Concat(answers(decl.Name, 0, decl.Result), argumentQuestions(decl))
}

// onward is how a row goes on: a place is begun; or it has ended, with a value; or the row ends, with the call at that waits then.
type onward struct {
	how, at, value int
}

const (
	begins = iota
	ended
	comesTo
	comesToNothing
)

// row makes the beats behind a move of the other side. It returns the move that the piece comes to, and the situation then; or reports that it comes to none.
func (r *runner) row(now situation, move api.Move) (said api.Move, next situation, moves bool) {
	r.values = append(r.values[:0], now.values...)
	clear(r.asked)
	beats := 0
	on := r.behindMove(now, move)
	for {
		switch on.how {
		case comesTo:
			if on.at == over {
				return r.said, situation{at: over}, true
			}
			return r.said, situation{on.at, string(r.values)}, true
		case comesToNothing:
			return api.Move{}, situation{at: over}, false
		case ended:
			on = r.behind(on.at, on.value)
		case begins:
			if beats == api.MaxInner {
				panic(excess{})
			}
			beats++
			on = r.begin(on.at)
		}
	}
}

func (r *runner) behindMove(now situation, move api.Move) onward {
	switch {
	case now.at == ahead:
		return onward{how: begins, at: 0}
	case move.Answer:
		return onward{ended, now.at, move.Value}
	}
	return onward{how: begins, at: r.places[now.at].kids[move.Arg-1]}
}

// comes ends a row with a move, behind which a call waits.
func (r *runner) comes(said api.Move, waits int) onward {
	r.said = said
	return onward{how: comesTo, at: waits}
}

// forget keeps the first values alone.
func (r *runner) forget(kept int) {
	r.values = r.values[:kept]
}

// begin begins a place.
func (r *runner) begin(at int) onward {
	p := &r.places[at]
	switch p.kind {
	case api.Skip:
		return onward{how: ended, at: at}
	case api.Stop:
		return onward{how: comesToNothing}
	case api.Fault:
		return r.comes(api.Move{Fault: true}, over)
	case api.Exit:
		r.forget(r.places[p.of].kept)
		return onward{how: ended, at: p.of}
	case api.Num:
		return onward{ended, at, p.of}
	case api.Read:
		return onward{ended, at, int(r.values[p.of])}
	case api.While:
		delete(r.asked, at)
		return r.asks(at)
	case api.Call:
		return r.handOver(at, 0)
	}
	return onward{how: begins, at: p.kids[0]}
}

// asks has a While ask its condition.
func (r *runner) asks(at int) onward {
	before := r.asked[at]
	if before[string(r.values)] {
		return onward{how: comesToNothing}
	}
	if before == nil {
		before = map[string]bool{}
		r.asked[at] = before
	}
	before[string(r.values)] = true
	return onward{how: begins, at: r.places[at].kids[0]}
}

// handOver runs the next argument by value of a call, from some argument on, or asks about the name if there is none.
func (r *runner) handOver(at, from int) onward {
	p := &r.places[at]
	decl := &r.decls[p.of]
	for turn := from; turn < len(decl.Args); turn++ {
		if decl.Args[turn] == api.Val {
			return onward{how: begins, at: p.kids[turn]}
		}
	}
	all := 0
	for _, value := range slices.Backward(r.values[p.kept:]) {
		all = all*api.Width + int(value)
	}
	r.forget(p.kept)
	return r.comes(api.Move{Name: decl.Name, Value: all}, at)
}

// behind goes on behind a place that has ended.
func (r *runner) behind(at, value int) onward {
	s := r.places[at].spot
	if s.up == nowhere {
		return r.comes(api.Move{Answer: true, Value: value}, over)
	}
	up := &r.places[s.up]
	switch up.kind {
	case api.Seq, api.Do:
		if s.turn == 0 {
			return onward{how: begins, at: up.kids[1]}
		}
	case api.Assign:
		r.values[up.of] = byte(value)
		value = 0
	case api.If:
		if s.turn == 0 {
			return onward{how: begins, at: up.kids[chosen(value)]}
		}
	case api.While:
		return r.behindInLoop(s, value)
	case api.Call:
		return r.behindArgument(s, value)
	case api.New, api.Add, api.Sub, api.Mul, api.Equal, api.Less:
		if s.turn == 0 {
			r.values = append(r.values, byte(value))
			return onward{how: begins, at: up.kids[1]}
		}
		if up.kind != api.New {
			value = numbers.Calculate(up.kind, int(r.values[up.kept]), value)
		}
		r.forget(up.kept)
	}
	return onward{ended, s.up, value}
}

// chosen returns which kid of an If is run.
func chosen(condition int) int {
	if condition != 0 {
		return 1
	}
	return 2
}

// behindInLoop goes on behind the condition, or the command, of a While.
func (r *runner) behindInLoop(s spot, value int) onward {
	switch {
	case s.turn == 1:
		return r.asks(s.up)
	case value == 0:
		return onward{how: ended, at: s.up}
	}
	return onward{how: begins, at: r.places[s.up].kids[1]}
}

// behindArgument goes on behind an argument of a declared name.
func (r *runner) behindArgument(s spot, value int) onward {
	decl := &r.decls[r.places[s.up].of]
	if decl.Args[s.turn] == api.Val {
		r.values = append(r.values, byte(value))
		return r.handOver(s.up, s.turn+1)
	}
	return r.comes(api.Move{Name: decl.Name, Arg: s.turn + 1, Answer: true, Value: value}, s.up)
}
