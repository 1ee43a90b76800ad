package tell

import (
	"strconv"
	"strings"
	"testing"

	"doppelganger/api"
	"doppelganger/lang"
	"doppelganger/moves"
	"doppelganger/play"
)

func mustRead(t *testing.T, text string) *lang.Piece {
	t.Helper()
	p, err := lang.Read(text)
	if err != api.OK {
		t.Fatalf("Read(%q): %d", text, err)
	}
	return p
}

// rowOf reads a row of moves, with spaces between: "?" and "!1" of the piece, "fault", "f?" (with values "f(1,2)?") and "f!1" of a name, "f.1?" and "f.1!1" of its argument. An answer without a value has the value 0.
func rowOf(text string) []api.Move {
	row := []api.Move{}
	for _, field := range strings.Fields(text) {
		if field == "fault" {
			row = append(row, api.Move{Fault: true})
			continue
		}
		at := strings.IndexAny(field, "?!")
		move := api.Move{Answer: field[at] == '!', Value: valueOf(field[at+1:])}
		name, values, _ := strings.Cut(strings.TrimSuffix(field[:at], ")"), "(")
		weight := 1
		for _, value := range strings.Split(values, ",") {
			move.Value += weight * valueOf(value)
			weight *= api.Width
		}
		name, arg, _ := strings.Cut(name, ".")
		move.Name, move.Arg = name, valueOf(arg)
		row = append(row, move)
	}
	return row
}

func valueOf(text string) int {
	if text == "" {
		return 0
	}
	value, err := strconv.Atoi(text)
	if err != nil {
		panic(err)
	}
	return value
}

func has(t *testing.T, p *lang.Piece, row []api.Move) bool {
	t.Helper()
	is, err := moves.Play(p, row)
	if err != api.OK {
		t.Fatalf("Play of %q and %v: %d", p.Text(), row, err)
	}
	return is
}

// outcome is what comes of a program.
type outcome struct {
	result api.Result
	value  int
}

// run runs a program, unless a limit is in its way.
func run(t *testing.T, p *lang.Piece) (end outcome, steps int, ok bool) {
	t.Helper()
	result, value, steps, err := play.Run(p)
	if err != api.OK && err != api.ErrFull {
		t.Fatalf("Run of %q: %d", p.Text(), err)
	}
	return outcome{result, value}, steps, err == api.OK
}

// fill fills a context, unless a limit is in its way.
func fill(t *testing.T, context, p *lang.Piece) (filled *lang.Piece, ok bool) {
	t.Helper()
	filled, err := lang.Fill(context, p)
	if err != api.OK && err != api.ErrFull {
		t.Fatalf("Fill of %q with %q: %d", context.Text(), p.Text(), err)
	}
	return filled, err == api.OK
}

// wantIn checks what comes of a piece in a context: the fault, or no end. It reports false if a limit is in the way.
func wantIn(t *testing.T, context, p *lang.Piece, faults bool) bool {
	t.Helper()
	filled, ok := fill(t, context, p)
	if !ok {
		return false
	}
	end, _, ok := run(t, filled)
	want := outcome{result: api.Never}
	if faults {
		want.result = api.Faulted
	}
	if ok && end != want {
		t.Errorf("%q in %q: %v; want %v", p.Text(), context.Text(), end, want)
	}
	return ok
}

// size returns how many nodes a context has, at which level hole stands in it, and at how many places it is called.
func size(context *lang.Piece) (count, level, calls int) {
	nodes := context.Nodes()
	levels := make([]int, len(nodes))
	levels[0] = 1
	for at, node := range nodes {
		for turn, kid := range node.Kids {
			levels[kid] = levels[at] + 1
			if node.Kind == api.Seq && turn == 0 && nodes[kid].Kind == api.Seq {
				levels[kid] = levels[at]
			}
		}
		if node.Kind == api.Call && node.Name == "hole" {
			level = levels[at]
			calls++
		}
	}
	return len(nodes), level, calls
}

// wantShape checks that it is a context as the document has it, for a play of some length.
func wantShape(t *testing.T, context *lang.Piece, typ api.Type, length int) {
	t.Helper()
	decls := context.Decls()
	if context.Type() != api.Com || len(decls) != 1 || decls[0].Name != "hole" || len(decls[0].Args) > 0 || decls[0].Result != typ {
		t.Errorf("no context for the type %d: %q", typ, context.Text())
	}
	count, level, calls := size(context)
	if calls != 1 || length <= 12 && (count > 400 || level > 12) {
		t.Errorf("a context for %d moves has %d nodes, and hole %d times, at level %d: %q", length, count, calls, level, context.Text())
	}
}
