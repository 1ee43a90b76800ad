package moves

import (
	"strings"
	"testing"

	"doppelganger/api"
)

// loop returns a command that makes 25 beats; or, with more levels, loops three times through a command of fewer ones: 22 beats, and three times theirs.
func loop(levels int) (text string, beats int) {
	text, beats = "skip", 1
	for range levels {
		text = "new i = 3 { while i { i := i - 1; " + text + " } }"
		beats = 22 + 3*beats
	}
	return text, beats
}

// behindBeats returns a row that makes some beats ahead of its last command.
func behindBeats(count int, last string) string {
	row := ""
	if count%2 == 1 {
		row += "while 0 { skip }; "
		count -= 3
	}
	for levels := 6; levels > 0; levels-- {
		text, beats := loop(levels)
		row += strings.Repeat(text+"; ", count/(beats+1))
		count %= beats + 1
	}
	return row + strings.Repeat("skip; ", count/2) + last
}

// wantRow checks what comes of a row that begins behind some moves: the moves and then said, nothing if said is none, or ErrFull.
func wantRow(t *testing.T, text, moves string, said int, want api.Errno) {
	t.Helper()
	p := mustRead(t, text)
	letters := lettersOf(p)
	for letter := range letters {
		play := movesOf(p, append(word(moves), letter))
		wantPlay(t, p, play, letter == said && want == api.OK, want)
	}
	if _, err := Plays(p); err != want {
		t.Errorf("Plays of %.100q: %d; want %d", text, err, want)
	}
}

const none = -1

// P4.6, P4.7, P4.8: as many beats in a row as the limit allows, and one more.
func TestMostBeats(t *testing.T) {
	const most = api.MaxInner
	for _, c := range []struct {
		last  string // with 0 question, 1 answer, 2 fault, 3 p, 4 its answer
		beats int    // that it makes until it is known what comes
		said  int
	}{
		{"p", 1, 3},
		{"skip", 1, 1},
		{"fault", 1, 2},
		{"stop", 1, none},
		{"while 0 { skip }", 2, 1},
		{"if 1 { p } { skip }", 3, 3},
		{"new x = 1 { x := x }", 4, 1},
		{"block k { exit k }", 2, 1},
		{"block k { block j { exit k } }", 3, 1},
		// The While asks again behind the last beat that may be made, and it is seen then.
		{"while 1 { skip }", 3, none},
		{"while 1 { stop }", 3, none},
		{"while 1 { fault }", 3, 2},
		{"new x = 1 { while x { x := x } }", 6, none},
		{"new x = 3 { while x { x := x - 1 } }", 19, 1},
		{"proc q() : com { p } { q }", 1, 3},
		{"proc q(a : com) : com { a; a } { q({ skip }) }", 3, 1},
		{"proc q(a : val) : com { a := a } { q(1) }", 4, 1},
	} {
		ahead := most - c.beats
		wantRow(t, "p : com |- com : "+behindBeats(ahead, c.last), "0", c.said, api.OK)
		wantRow(t, "p : com |- com : "+behindBeats(ahead+1, c.last), "0", none, api.ErrFull)
	}
}

// P4.6: beats are counted anew behind each move of the other side.
func TestBeatsBehindEachMove(t *testing.T) {
	long := func(beats int, last string) string { return "if 1 { " + behindBeats(beats-2, last) + " } { skip }" }
	const most = api.MaxInner
	// Behind the question: the Seq ahead of p, and p.
	wantRow(t, "p : com |- com : "+long(most-2, "p; p"), "0", 3, api.OK)
	wantRow(t, "p : com |- com : p; "+long(most-1, "p"), "0 3 4", 3, api.OK)
	wantRow(t, "p : com |- com : p; "+long(most, "p"), "0 3 4", none, api.ErrFull)
	wantRow(t, "p : com |- com : p; "+long(most-1, "skip"), "0 3 4", 1, api.OK)
	// Behind the question about an argument, and behind the answer to a call within it.
	wantRow(t, "f(com) : com |- com : f({ "+long(most-1, "skip")+" })", "0 3 5", 6, api.OK)
	wantRow(t, "f(com) : com |- com : f({ "+long(most, "skip")+" })", "0 3 5", none, api.ErrFull)
	wantRow(t, "f(com) : com, p : com |- com : f({ p; "+long(most-1, "skip")+" })", "0 3 5 7 8", 6, api.OK)
	wantRow(t, "f(com) : com, p : com |- com : f({ p; "+long(most, "skip")+" })", "0 3 5 7 8", none, api.ErrFull)
	// Behind an exit, and in an argument by value.
	wantRow(t, "f(com) : com |- com : block k { f({ exit k }) }; "+long(most-2, "skip"), "0 3 5", 1, api.OK)
	wantRow(t, "f(com) : com |- com : block k { f({ exit k }) }; "+long(most-1, "skip"), "0 3 5", none, api.ErrFull)
	wantRow(t, "f(val) : com |- com : f(do { "+behindBeats(most-4, "skip")+" } [ 1 ])", "0", 4, api.OK)
	wantRow(t, "f(val) : com |- com : f(do { "+behindBeats(most-3, "skip")+" } [ 1 ])", "0", none, api.ErrFull)
}

// P4.7, P4.8: a row that is too long counts where it is come to.
func TestLongRowsThatAreMet(t *testing.T) {
	long := behindBeats(api.MaxInner, "skip")
	p := mustRead(t, "x : exp |- com : if x == 2 { "+long+" } { skip }")
	// 0, 1, 2; 3 x, 4 to 7 its answers
	for play, want := range map[string]api.Errno{"0 3": api.OK, "0 3 4 1": api.OK, "0 3 5 1": api.OK, "0 3 7 1": api.OK, "0 3 6 1": api.ErrFull, "0 3 6 3": api.ErrFull, "0 3 6 3 4 1": api.ErrFull} {
		wantPlay(t, p, movesOf(p, word(play)), want == api.OK, want)
	}
	// What is none of a play ends it ahead of the row; and so does a number of moves that is odd.
	for _, play := range []string{"0 2 6 1", "0 3 3 1", "0 3 0 1", "0 3 6", "0 3 4 1 6 1", ""} {
		wantPlay(t, p, movesOf(p, word(play)), false, api.OK)
	}
	wantPlay(t, p, []api.Move{{}, {Name: "x"}, {Name: "x", Answer: true, Value: 4}, {Answer: true}}, false, api.OK)
	wantFull(t, p.Text())
	for _, text := range []string{
		"p : com |- com : p; stop; " + long,
		"p : com |- com : p; if 0 { " + long + " } { skip }",
		"p : com |- com : block k { p; exit k; " + long + " }",
		"f(com) : com |- com : proc f(a : com) : com { skip } { f({ " + long + " }) }",
	} {
		mustPlays(t, mustRead(t, text))
	}
	wantFull(t, "f(com, com) : com |- com : f({ skip }, { "+long+" })")
	wantFull(t, "p : com |- com : new n = 0 { while 1 { p; n := n + 1; if n == 3 { "+long+" } { skip } } }")
}

// P4.6: a While that asks with values with which it asked before, behind the same move and since it was begun, makes no move again.
func TestEndlessRows(t *testing.T) {
	for _, text := range []string{
		"stop", "p; stop; p", "while 1 { skip }", "while 1 { while 0 { skip } }",
		"new x = 1 { while x { x := x + 2 } }",
		"new x = 0 { while 1 { x := x + 1 } }",
		"new x = 0 { while 1 { new y = x { while y { y := y - 1 } } } }",
		"while 1 { block k { exit k; p } }",
		"block k { while 1 { block j { exit j }; while 0 { exit k } } }",
		"proc q(a : com) : com { while 1 { a } } { q({ skip }) }",
		"while do { while 1 { skip } } [ 0 ] { p }",
		"new x = 1 + do { while 1 { skip } } [ 0 ] { p }",
	} {
		want := 0
		if strings.HasPrefix(text, "p;") {
			want = 3
		}
		wantStates(t, "p : com |- com : "+text, want)
	}
}

// P4.6: it is no endless row when something has changed since, when the While was begun anew, or behind another move.
func TestRowsThatEnd(t *testing.T) {
	plays(t, "p : com |- com : while 1 { p }", "0 3, 0 3 4 3 4 3 4 3", "0 3 4 1")
	plays(t, "x : exp |- com : while x { skip }", "0 3, 0 3 5 3 6 3 7 3 5 3, 0 3 5 3 4 1", "0 3 4 3")
	// The condition is asked twice behind one move only if the command makes none.
	plays(t, "x : exp |- com : new y = 0 { while y == 0 { y := x } }", "0 3 4 3 4 3 5 1, 0 3 7 1", "0 3 4 1")
	plays(t, "p : com |- com : new n = 3 { while n { n := n - 1; while n == 1 { p; n := 0 }; while 0 { skip } } }", "0 3 4 1", "0 1")
	plays(t, "p : com |- com : new n = 2 { while 1 { block k { while 1 { n := n - 1; exit k } }; if n == 0 { p } { skip } } }", "0 3 4 3 4 3", "0 1")
	plays(t, "p : com |- com : block k { while 1 { while 1 { exit k } } }; p", "0 3 4 1", "0 1")
	plays(t, "f(com) : com |- com : new n = 0 { f({ while n < 2 { n := n + 1 }; if n == 2 { n := 0 } { skip } }) }", "0 3 5 6 5 6 5 6 4 1", "0 3 5 1")
	// Numbers that are kept, and variables out of sight, are no reason to go on.
	plays(t, "|- exp : 3 + new n = 2 [ do { while n { n := n - 1 } } [ n ] ]", "0 4", "0 5")
	plays(t, "|- com : proc q(a : exp) : com { while a { skip } } { new n = 3 { q(do { n := n - 1 } [ n ]) } }", "0 1", "0 2")
}

// P4.6: a While that asks as it did in an earlier run of it is not yet known to go on for ever; only the While around it is, when it asks with the same values again.
func TestRunsOfLoops(t *testing.T) {
	twice := func(beats int) string {
		return "|- com : new n = 0 { while 1 { n := 1; while 0 { skip }; " + behindBeats(beats, "skip") + " } }"
	}
	// It makes 3 beats, and then 8 more than those of the row in each of two turns, until it asks the third time.
	wantRow(t, twice((api.MaxInner-3)/2-8), "0", none, api.OK)
	wantRow(t, twice((api.MaxInner-3)/2-7), "0", none, api.ErrFull)
}
