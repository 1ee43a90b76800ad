package tell

import (
	"math/rand"
	"slices"
	"testing"

	"doppelganger/api"
	"doppelganger/lang"
	"doppelganger/moves"
)

// wantPossible checks which rows of moves have a context.
func wantPossible(t *testing.T, decls, row string, want bool) {
	t.Helper()
	p := mustRead(t, decls+" |- com : stop")
	context, err := Context(p.Decls(), api.Com, rowOf(row))
	wantErr := api.OK
	if !want {
		wantErr = api.ErrForm
	}
	if err != wantErr || (context != nil) != want {
		t.Errorf("Context for %q and %q: %d; want %d", decls, row, err, wantErr)
	}
}

// P5.3: rows that are possible, and rows that are not.
func TestPossible(t *testing.T) {
	const decls = "f(com) : com, g(exp, com) : exp, h(val, com) : com, p : com"
	for _, row := range []string{
		"? !0", "? fault", "? p?", "? p? p!0 p?", "? p? p!0 !0", "? p? p!0 fault",
		"? f? f!0 !0", "? f? f.1? f.1!0", "? f? f.1? f.1!0 f.1? f.1!0 f!0 f?", "? f? f.1? p? p!0 f.1!0 f!0 p?",
		"? g? g.1? g.1!3 g.2? g.2!0 g!2 !0", "? h(3)? h.2? h.2!0 h!0 h(1)?",
		// Within an argument there may be another call, also of the same name.
		"? f? f.1? f? f.1? f.1!0 f!0 f.1!0 f!0 !0", "? f? f.1? g? g!1 f.1!0", "? f? f.1? f? f!0 f? f.1? p?",
		// An exit may leave calls and questions about their arguments.
		"? f? f.1? !0", "? f? f.1? fault", "? f? f.1? g? g.2? f.1!0 f!0 !0", "? f? f.1? g? g.2? f.1!0 f.1? f.1!0",
		"? f? f.1? f? f.1? f.1!0 f!0 !0", "? f? f.1? p? p!0 p?", "? g? g.1? g? g.2? g.1!0 g!0 g?",
		"? f? f.1? f? f.1? p? p!0 f.1!0 f.1? f.1!0 f!0 f.1!0",
	} {
		wantPossible(t, decls, row, true)
	}
	for _, row := range []string{
		// Moves in turns, from the question about the piece to a move of the piece.
		"", "?", "? p? p!0", "!0", "!0 ?", "p?", "p? p!0", "? ?", "? !0 ?", "? !0 ? !0", "? p? ? !0", "? p? p? p!0", "fault", "fault fault",
		// Other moves than those of Letters.
		"? !1", "? q?", "? p? p!1 !0", "? h(4)?", "? h? h.1? h.1!0", "? f? f.2? f.2!0", "? g? g.1? g.1!4", "? p(1)?", "? p.1?", "? p? p.1? p.1!0",
		// The other side answers or asks about the call that waits.
		"? p? f!0 !0", "? p? f.1? f.1!0", "? f? p!0 !0", "? f? f.1!0 !0", "? f? f.1? p? f.1? f.1!0", "? f? f.1? p? f!0 !0", "? f? f? f!0", "? p? fault fault", "? p? !0 fault",
		"? f? f.1? f.1!0 p!0 !0", "? f? f.1? f? f!0 f.1!0 f.1!0 f!0",
		// The piece answers what is open, and asks about names alone.
		"? p!0", "? p? p!0 p!0", "? p? p!0 ?", "? f.1!0", "? f.1?", "? f? f!0 f.1!0", "? f? f.1? f.1!0 f!0 f.1!0", "? f? f.1? g.1!0", "? f? f.1? f!0", "? f? f.1? f.1?", "? p? p!0 f!0", "? g? g.1? g.2!0",
		// What an exit left is open no more.
		"? f? f.1? g? g.2? f.1!0 f!0 g.2!0", "? f? f.1? g? g.2? f.1!0 g!0 !0", "? f? f.1? g? g.2? f.1!0 g.1? g.1!0",
		// Nothing comes behind the last move.
		"? !0 p!0 !0", "? fault p!0 !0", "? fault ? !0", "? p? p!0 !0 p!0 !0", "? fault fault fault",
	} {
		wantPossible(t, decls, row, false)
	}
}

// follower tells which moves may follow in a row, as another way to find the possible ones. The open questions are the questions that were asked.
type follower struct {
	decls []api.Decl
	typ   api.Type
}

// answers returns the answers to a question.
func (f follower) answers(to api.Move) []api.Move {
	typ := f.typ
	for _, decl := range f.decls {
		if decl.Name == to.Name && to.Arg == 0 {
			typ = decl.Result
		} else if decl.Name == to.Name {
			typ = decl.Args[to.Arg-1]
		}
	}
	list := []api.Move{{Name: to.Name, Arg: to.Arg, Answer: true}}
	for value := 1; value < api.Width && typ == api.Exp; value++ {
		list = append(list, api.Move{Name: to.Name, Arg: to.Arg, Answer: true, Value: value})
	}
	return list
}

// step is a move, and what is open behind it; nothing if nothing may follow.
type step struct {
	move api.Move
	open []api.Move
}

// piece returns what the piece may do. Behind an answer its question, and all behind it, is gone; but what is answered has to be the last one of its like.
func (f follower) piece(open []api.Move) []step {
	list := []step{{move: api.Move{Fault: true}}}
	seen := []api.Move{}
	for at, question := range slices.Backward(open) {
		isCall := question.Name != "" && question.Arg == 0
		if isCall || slices.Contains(seen, question) {
			continue
		}
		seen = append(seen, question)
		for _, answer := range f.answers(question) {
			list = append(list, step{answer, open[:at:at]})
		}
	}
	for _, decl := range f.decls {
		count := 1
		for _, arg := range decl.Args {
			if arg == api.Val {
				count *= api.Width
			}
		}
		for value := range count {
			list = append(list, step{api.Move{Name: decl.Name, Value: value}, append(slices.Clone(open), api.Move{Name: decl.Name})})
		}
	}
	return list
}

// other returns what the other side may do.
func (f follower) other(open []api.Move) []step {
	if len(open) == 0 {
		return nil
	}
	var list []step
	last := len(open) - 1
	call := open[last]
	for _, answer := range f.answers(call) {
		list = append(list, step{answer, open[:last:last]})
	}
	for _, decl := range f.decls {
		for i, arg := range decl.Args {
			if decl.Name == call.Name && arg != api.Val {
				asks := api.Move{Name: decl.Name, Arg: i + 1}
				list = append(list, step{asks, append(slices.Clone(open), asks)})
			}
		}
	}
	return list
}

// rows hands on all possible rows of at most some moves.
func (f follower) rows(most int, use func(row []api.Move)) {
	var grow func(row, open []api.Move)
	grow = func(row, open []api.Move) {
		if len(row)+2 > most {
			return
		}
		others := f.other(open)
		if len(row) == 0 {
			others = []step{{api.Move{}, []api.Move{{}}}}
		}
		for _, asked := range others {
			for _, said := range f.piece(asked.open) {
				next := append(slices.Clone(row), asked.move, said.move)
				use(next)
				grow(next, said.open)
			}
		}
	}
	grow(nil, nil)
}

// row returns a random possible row of at most some moves.
func (f follower) row(random *rand.Rand, most int) []api.Move {
	row := []api.Move{{}}
	said := f.piece(row)
	one := said[random.Intn(len(said))]
	for {
		row = append(row, one.move)
		others := f.other(one.open)
		if len(row) >= most || len(others) == 0 {
			return row
		}
		asked := others[random.Intn(len(others))]
		row = append(row, asked.move)
		said = f.piece(asked.open)
		if len(row)+1 < most {
			// What ends the play is not to come too soon.
			said = slices.DeleteFunc(said, func(s step) bool { return len(s.open) == 0 })
		}
		one = said[random.Intn(len(said))]
	}
}

func keyOf(letters, row []api.Move) string {
	key := ""
	for _, move := range row {
		key += string(rune(' ' + slices.Index(letters, move)))
	}
	return key
}

// P5.3: of all short rows just those are possible that may be put together move by move.
func TestAllShortRows(t *testing.T) {
	for _, c := range []struct {
		names string
		typ   api.Type
		most  int
	}{{"", api.Exp, 4}, {"p", api.Com, 6}, {"x", api.Exp, 4}, {"f", api.Com, 6}, {"pf", api.Com, 4}, {"e", api.Exp, 4}} {
		decls := declsOf(c.names)
		letters := moves.Letters(decls, c.typ)
		are := map[string]bool{}
		follower{decls, c.typ}.rows(c.most, func(row []api.Move) { are[keyOf(letters, row)] = true })
		count := 0
		var all func(row []api.Move)
		all = func(row []api.Move) {
			_, err := Context(decls, c.typ, row)
			if want := are[keyOf(letters, row)]; want != (err == api.OK) || !want && err != api.ErrForm {
				t.Fatalf("Context for %q and %v: %d; possible: %v", c.names, row, err, want)
			}
			if err == api.OK {
				count++
			}
			for _, letter := range letters {
				if len(row) < c.most {
					all(append(slices.Clone(row), letter))
				}
			}
		}
		all(nil)
		if count != len(are) || count == 0 {
			t.Errorf("%q: %d rows are possible; want %d", c.names, count, len(are))
		}
	}
}

// P5.3: random long rows, and such with a move changed.
func TestLongRows(t *testing.T) {
	random := rand.New(rand.NewSource(1))
	changed := 0
	for range 2000 {
		names := declarations[random.Intn(len(declarations))]
		f := follower{declsOf(names), api.Type(random.Intn(2))}
		row := f.row(random, 12)
		if _, err := Context(f.decls, f.typ, row); err != api.OK {
			t.Fatalf("Context for %q and %v: %d", names, row, err)
		}
		letters := moves.Letters(f.decls, f.typ)
		at := random.Intn(len(row))
		row[at] = letters[random.Intn(len(letters))]
		want := f.possible(row)
		if want {
			changed++
		}
		if _, err := Context(f.decls, f.typ, row); (err == api.OK) != want || !want && err != api.ErrForm {
			t.Fatalf("Context for %q and %v: %d; possible: %v", names, row, err, want)
		}
	}
	if changed < 300 {
		t.Errorf("only %d rows are possible when a move is changed", changed)
	}
}

// possible follows a row.
func (f follower) possible(row []api.Move) bool {
	if row[0] != (api.Move{}) {
		return false
	}
	open := []api.Move{{}}
	for at, move := range row[1:] {
		next := f.other(open)
		if at%2 == 0 {
			next = f.piece(open)
		}
		i := slices.IndexFunc(next, func(s step) bool { return s.move == move })
		if i < 0 {
			return false
		}
		open = next[i].open
	}
	return true
}

// P5.3: all plays are possible.
func TestPlaysArePossible(t *testing.T) {
	plays, left := 0, 0
	randomPieces(t, 2000, func(random *rand.Rand, p *lang.Piece, m api.Machine) {
		row := randomPlay(random, p, m, 12)
		if len(row) == 0 {
			return
		}
		plays++
		if _, err := Context(p.Decls(), p.Type(), row); err != api.OK {
			t.Errorf("Context for %v, a play of %q: %d", row, p.Text(), err)
		}
		if leaves(row) {
			left++
		}
	})
	if plays < 1000 || left < 20 {
		t.Errorf("only %d plays, and in only %d an exit leaves arguments", plays, left)
	}
}

// leaves reports whether the piece answers a question behind which others are still open.
func leaves(row []api.Move) bool {
	var open []api.Move
	for _, move := range row {
		question := api.Move{Name: move.Name, Arg: move.Arg}
		switch {
		case move.Fault:
			return false
		case !move.Answer:
			open = append(open, question)
		case open[len(open)-1] != question:
			return true
		default:
			open = open[:len(open)-1]
		}
	}
	return false
}
