package moves

import (
	"strings"
	"testing"

	"doppelganger/api"
	"doppelganger/auto"
)

// times returns a row of calls of a procedure that makes a command, as many as are asked for, and its definition ahead of them.
func times(count int, command, last string) string {
	const perA, perB = 20, 400
	row := strings.Repeat("manyb; ", count/perB)
	count %= perB
	row += strings.Repeat("manya; ", count/perA)
	count %= perA
	row += strings.Repeat(command+"; ", count)
	a := "proc manya() : com { " + command + strings.Repeat("; "+command, perA-1) + " } "
	b := "proc manyb() : com { manya" + strings.Repeat("; manya", perB/perA-1) + " } "
	return a + "{ " + b + "{ " + row + last + " } }"
}

// variables returns a command within variables that are 0 at first.
func variables(names, command string) string {
	for _, name := range names {
		command = "new " + string(name) + " = 0 { " + command + " }"
	}
	return command
}

// countUp returns a command that counts in some variables, each of which goes on when the one behind it is 0 again.
func countUp(names string) string {
	text := "skip"
	for _, name := range names {
		text = string(name) + " := " + string(name) + " + 1; if " + string(name) + " { skip } { " + text + " }"
	}
	return text
}

// P4.5, P4.7: as many situations as the limit allows, and one more. The calls are as many places; the machine has few states.
func TestMostSituationsByPlaces(t *testing.T) {
	wantStates(t, "p : com |- com : while 1 { "+times(api.MaxStates-1, "p", "p")+" }", 3)
	wantFull(t, "p : com |- com : while 1 { "+times(api.MaxStates, "p", "p")+" }")
	// Two calls of a procedure are two places, and so are those that an argument makes where it stands.
	wantStates(t, "p : com |- com : proc q(a : com) : com { while 1 { "+times(api.MaxStates-1, "a", "a")+" } } { q({ p }) }", 3)
	wantFull(t, "p : com |- com : proc q(a : com) : com { while 1 { "+times(api.MaxStates, "a", "a")+" } } { q({ p }) }")
}

// P4.5, P4.7: the values of variables tell situations apart, as far as they are open there.
func TestMostSituationsByVariables(t *testing.T) {
	const six = "abcdef"
	// It begins anew at some number, which is written with the last variable as its first digit.
	until := func(digits string) string {
		back, same := "", "1"
		for i, name := range six {
			back += string(name) + " := 0; "
			same += " * (" + string(name) + " == " + digits[i:i+1] + ")"
		}
		return "p : com |- com : " + variables(six, "while 1 { p; "+countUp(six)+"; if "+same+" { "+back+"skip } { skip } }")
	}
	// The digits of 4000 and of 4001. countUp has the last variable count fastest.
	wantStates(t, until("332200"), 3)
	wantFull(t, until("332201"))
	wantFull(t, "p : com |- com : "+variables(six, "while 1 { p; "+countUp(six)+" }"))
	// Where the variables are not open they do not count.
	wantStates(t, "p : com |- com : while 1 { p; "+variables(six, "block k { while 1 { "+countUp("abcd")+"; if a * b * c * d { exit k } { skip } } }")+" }", 3)
	// Situations that do not come up do not count.
	wantStates(t, "p : com |- com : p; stop; "+variables(six, "while 1 { p; "+countUp(six)+" }"), 3)
}

// P4.5, P4.7: numbers that are kept for what comes behind the call tell situations apart, too: 4 for each level.
func TestMostSituationsByKeptNumbers(t *testing.T) {
	sum := func(count int) string { return strings.Repeat("x + (", count-1) + "x" + strings.Repeat(")", count-1) }
	mustPlays(t, mustRead(t, "x : exp |- exp : "+sum(6))) // 1 + 4 + .. + 4^5 = 1365
	wantFull(t, "x : exp |- exp : "+sum(7))               // 1 + 4 + .. + 4^6 = 5461
	mustPlays(t, mustRead(t, "x : exp |- exp : x"+strings.Repeat(" + x", 12)))
	handed := func(count int) string {
		last := "do { while 1 { p } } [ 1 ]"
		return "x : exp, p : com, f(val, val) : exp |- exp : " + strings.Repeat("f(x, ", count) + last + strings.Repeat(")", count)
	}
	wantStates(t, handed(5), 1+2*6) // 1 + 4 + .. + 4^5 situations
	wantFull(t, handed(6))
	// The values of the call that waits itself are handed over, and kept no more: 1 + 4 + 16 + 1 = 22 situations for each.
	wantStates(t, "x : exp, f(val, val, val) : com |- com : while 1 { "+times(180, "f(x, x, x)", "f(x, x, x)")+" }", 1+2*(1+4+16)+64+1)
	wantFull(t, "x : exp, f(val, val, val) : com |- com : while 1 { "+times(181, "f(x, x, x)", "f(x, x, x)")+" }")
}

// P4.7: as many states of the machine as the limit allows, and one more, of fewer situations.
func TestMostStates(t *testing.T) {
	// The machine of n calls of p has 2n + 3 states; with a call of f ahead, three more.
	wantStates(t, "p : com |- com : "+times(1997, "p", "p"), 3999)
	wantFull(t, "p : com |- com : "+times(1998, "p", "p"))
	wantStates(t, "f(com) : com, p : com |- com : f({ skip }); "+times(1996, "p", "p"), 4000)
	wantFull(t, "f(com) : com, p : com |- com : f({ skip }); "+times(1997, "p", "p"))
	// Where nothing comes behind a question, this is the same state as where the play is over.
	wantStates(t, "x : exp, p : com |- com : "+times(1997, "p", "if x { p; stop } { skip }"), 4000)
	wantFull(t, "x : exp, p : com |- com : "+times(1998, "p", "if x { p; stop } { skip }"))
}

// P4.7: it is the least machine whose states count: here there is one state for each of 1024 situations, and four more ahead of it by the piece's moves that lead there, but what comes then is of 4 kinds.
func TestManyMovesFewStates(t *testing.T) {
	p := mustRead(t, "f(com, com, exp) : exp |- com : "+variables("abcde", "while 1 { new r = f({ skip }, { skip }, e) { skip }; "+countUp("abcde")+" }"))
	m := mustPlays(t, p)
	// The first question; then for each kind: the question about f, its two commands and its expression are answered, and it waits.
	if want := 1 + 4*5; len(m.Next) != want {
		t.Errorf("%d states; want %d", len(m.Next), want)
	}
	// 3 f, 4 to 7 its answers, 8 9 and 10 11 its commands, 12 and 13 to 16 its expression
	for letters, want := range map[string]bool{"0 3 8 9 10 11 12 13": true, "0 3 4 3 12 14": true, "0 3 12 14": false, "0 3 4 3 12 13": false, "0 3 4 1": false} {
		if auto.Accepts(m, word(letters)) != want {
			t.Errorf("%s should be %v", letters, want)
		}
	}
}

// P4.8: a play has at most MaxSteps moves, and it does not matter how many situations the piece has.
func TestLongestPlays(t *testing.T) {
	p := mustRead(t, "p : com |- com : "+variables("abcdef", "while 1 { p; "+countUp("abcdef")+" }"))
	wantFull(t, p.Text())
	play := movesOf(p, []int{0, 3})
	for len(play) < api.MaxSteps {
		play = append(play, play[1], play[1])
		play[len(play)-2] = api.Move{Name: "p", Answer: true}
	}
	wantPlay(t, p, play, true, api.OK)
	wantPlay(t, p, play[:api.MaxSteps-1], false, api.OK)
	wantPlay(t, p, play[:api.MaxSteps-2], true, api.OK)
	wantPlay(t, p, append(play, play[0]), false, api.ErrFull)
	wantPlay(t, p, append(play, play...), false, api.ErrFull)
	play[api.MaxSteps-1] = api.Move{Answer: true}
	wantPlay(t, p, play, false, api.OK)
	// Too many moves are too many whatever they are.
	wantPlay(t, p, make([]api.Move, api.MaxSteps+1), false, api.ErrFull)
	wantPlay(t, p, make([]api.Move, api.MaxSteps), false, api.OK)
}

// P4.3, P4.7: a machine has as many letters as there can be moves.
func TestMachineOfMostLetters(t *testing.T) {
	const decls = "a(val, val, val) : exp, b(val, val, val) : exp, c(val, val, val) : exp, d(val, val, val) : exp"
	p := mustRead(t, decls+" |- exp : d(a(1, 2, 3), b(3, 2, 1), c(0, 0, 3))")
	if m := mustPlays(t, p); m.Letters != 278 {
		t.Errorf("%d letters", m.Letters)
	}
}
