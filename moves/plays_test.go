package moves

import "testing"

// Chapter 4, Examples: how many states the machines have.
func TestExampleStates(t *testing.T) {
	for text, want := range map[string]int{
		"p : com |- com : p":                5,
		"x : exp |- exp : x + 1":            8,
		"f(com) : com |- com : f({ skip })": 6,
		"|- com : stop":                     0,
		"|- com : while 1 { skip }":         0,
		"|- com : fault":                    3,
		"|- com : skip":                     3,
		"|- exp : 2 + 3":                    3,
		"f(com) : com |- com : block k { f({ exit k }); fault }": 6,
		// Nothing comes behind the question about p: it is the end.
		"p : com |- com : p; stop": 3,
		// All answers are alike, and so all situations are.
		"p : com |- com : while 1 { p }":                           3,
		"p : com |- com : new x = 0 { while 1 { x := x + 1; p } }": 3,
	} {
		wantStates(t, text, want)
	}
}

// Chapter 4, Examples; P4.1, P4.2: the plays.
func TestExamplePlays(t *testing.T) {
	plays(t, "p : com |- com : p", "0 3, 0 3 4 1", " , 0, 0 1, 0 2, 0 3 4, 0 3 4 2, 0 3 4 3, 0 3 4 1 0 3, 3, 4 1, 0 3 0 3, 0 3 3 4, 1 0")
	plays(t, "x : exp |- exp : x + 1", "0 6, 0 6 7 2, 0 6 8 3, 0 6 9 4, 0 6 10 1", "0 6 7 1, 0 6 10 5, 0 6 7 6, 0 5, 0 6 6 6, 0 6 2 2")
	plays(t, "f(com) : com |- com : f({ skip })", "0 3, 0 3 5 6, 0 3 4 1, 0 3 5 6 5 6 5 6, 0 3 5 6 5 6 4 1", "0 3 5 4, 0 3 5 1, 0 3 6 5, 0 3 4 1 5 6, 0 3 5 6 5 5")
	plays(t, "f(com) : com |- com : new x = 0 { f({ x := x + 1; if x == 3 { fault } { skip } }) }", "0 3 5 6 5 6 5 2, 0 3 5 6 5 6 4 1", "0 3 5 6 5 6 5 6, 0 3 5 2, 0 3 5 6 5 6 5 2 5 6, 0 3 5 6 5 6 5 2 4 1")
	plays(t, "|- com : stop", "", "0, 0 1, 0 2, ")
	plays(t, "|- com : while 1 { skip }", "", "0, 0 1, 0 2, ")
	plays(t, "|- com : fault", "0 2", "0 1, 0 2 0 2, 0, 2")
	plays(t, "p : com, f(com) : com |- com : f({ p })", "0 3, 0 3 5 7, 0 3 5 7 8 6, 0 3 5 7 8 6 4 1, 0 3 4 1, 0 3 5 7 8 6 5 7 8 6", "0 3 5 6, 0 3 5 7 4 1, 0 3 5 7 8 1, 0 3 5 7 5 7, 0 7")
	plays(t, "f(val) : com, x : exp |- com : f(x + 1)", "0 8, 0 8 9 4, 0 8 12 3, 0 8 9 4 7 1, 0 8 10 5 7 1", "0 3, 0 8 9 3, 0 8 9 8, 0 8 9 4 8 1, 0 8 9 4 7 2")
	plays(t, "f(com) : com |- com : block k { f({ exit k }); fault }", "0 3 5 1, 0 3 4 2, 0 3", "0 3 5 6, 0 3 4 1, 0 3 5 2, 0 3 5 1 5 1, 0 3 5 1 4 2")
	plays(t, "f(com) : com, g(com) : com |- com : f({ block k { g({ exit k }) } })", "0 3, 0 3 5 7, 0 3 5 7 9 6 4 1, 0 3 5 7 8 6, 0 3 5 7 9 6 5 7 9 6", "0 3 5 7 9 10, 0 3 5 7 4 1, 0 3 5 7 6 5, 0 3 5 7 5 7")
}

// P4.1: values are handed over in one number, the first one by itself, the next one Width times, and so on.
func TestValuesHandedOver(t *testing.T) {
	plays(t, "f(val, com, val) : exp |- exp : f(1, { skip }, 2)", "0 15, 0 15 22 1, 0 15 25 4, 0 15 26 27, 0 15 26 27 24 3", "0 12, 0 7, 0 8, 0 15 26 22")
	plays(t, "f(val, val, val) : com |- com : f(3, 0, 2)", "0 38, 0 38 67 1", "0 17, 0 37, 0 39")
	// They are run from the left to the right, each once, and then the name is asked.
	plays(t, "f(val, val) : com, x : exp |- com : f(x, x)", "0 20, 0 20 22 20, 0 20 22 20 21 4, 0 20 21 20 22 7, 0 20 24 20 23 14 19 1", "0 3, 0 20 22 4, 0 20 22 20 21 7, 0 20 22 20 21 4 19 2")
	// Arguments by name between them are not run.
	plays(t, "f(val, exp, val) : com, x : exp |- com : f(1, fault, x)", "0 25, 0 25 28 12, 0 25 28 12 20 2, 0 25 28 12 19 1", "0 2, 0 25 2, 0 25 28 12 20 21")
	// A fault, a stop or an exit in one of them is ahead of the question.
	plays(t, "f(val) : com |- com : f(fault)", "0 2", "0 3")
	plays(t, "f(val) : com |- com : f(stop)", "", "0, 0 3, 0 2")
	plays(t, "f(val, val) : com, p : com |- com : block k { f(1, do { p; exit k } [ 1 ]); fault }", "0 20, 0 20 21 1", "0 8, 0 20 21 8, 0 20 21 2")
}

// P4.1: an argument's number counts all arguments, and an expression answers with its value.
func TestArguments(t *testing.T) {
	plays(t, "f(exp, com) : exp |- exp : new x = 1 [ f(x, { x := x + 1 }) ]", "0 6, 0 6 11 13, 0 6 16 17 11 14, 0 6 16 17 16 17 11 15 7 1, 0 6 16 17 16 17 16 17 11 12, 0 6 10 4", "0 6 11 12, 0 6 16 17 11 13, 0 6 16 16, 0 6 11 17, 0 6 16 12")
	// Within an argument the piece may ask about names, also the same one, and then waits for that call.
	plays(t, "f(com) : com |- com : f({ f({ skip }) })", "0 3, 0 3 5 3, 0 3 5 3 4 6, 0 3 5 3 5 6, 0 3 5 3 5 6 5 6 4 6 4 1, 0 3 4 1, 0 3 5 3 4 6 5 3", "0 3 5 6, 0 3 5 3 4 1, 0 3 5 3 5 3")
	plays(t, "f(com) : com, x : exp |- exp : x + do { f({ skip }) } [ x ]", "0 10, 0 10 11 6, 0 10 14 6 8 9 7 10 13 2, 0 10 12 6 7 10 13 4", "0 10 11 10, 0 10 12 6 7 10 13 3, 0 10 11 6 7 2")
	// Whoever answers chooses the value; the piece goes on with it.
	plays(t, "x : exp |- com : if x == 2 { fault } { if x { stop } { skip } }", "0 3, 0 3 6 2, 0 3 4 3, 0 3 5 3 4 1, 0 3 7 3", "0 3 6 3, 0 3 4 2, 0 3 4 3 5 1, 0 3 4 3 5 2, 0 3 4 1")
}

// P4.1: an exit gives up the call whose argument it leaves, and all that was called behind it.
func TestExits(t *testing.T) {
	plays(t, "f(com) : com, g(com) : com |- com : block k { f({ g({ exit k }); fault }); stop }", "0 3, 0 3 5 7, 0 3 5 7 9 1, 0 3 5 7 8 2", "0 3 4 1, 0 3 5 7 9 10, 0 3 5 7 9 6, 0 3 5 7 9 1 4 1, 0 3 5 7 9 2")
	plays(t, "f(com) : com, g(com) : com |- com : f({ block k { g({ exit k }); fault } })", "0 3 5 7 9 6, 0 3 5 7 9 6 5 7 8 2, 0 3 5 7 9 6 4 1", "0 3 5 7 9 10, 0 3 5 7 9 6 8 2, 0 3 5 7 9 6 9 6")
	// The variables that were open in it are gone, and those outside have their values.
	plays(t, "f(com) : com |- exp : new x = 0 [ do { block k { f({ new y = 3 { x := y; exit k } }) }; x := x + 1 } [ x ] ]", "0 6 8 1, 0 6 7 2", "0 6 8 4, 0 6 8 2, 0 6 7 1")
	// What is to be added to outlives it, if it stands outside of the block, and is gone if it stands within.
	plays(t, "f(exp) : exp |- exp : 2 + do { block k { new x = 3 * f(1 + do { exit k } [ 1 ]) { stop } } } [ 1 ]", "0 6, 0 6 11 4", "0 6 11 12, 0 6 7 4, 0 6 11 1")
	// A call in an argument by value of another call is given up with it, before that is asked.
	plays(t, "f(val, val) : com, g(com) : exp |- com : block k { f(1, g({ exit k })) }", "0 20, 0 20 25 1, 0 20 21 4, 0 20 24 16", "0 20 25 26, 0 20 25 4")
	// The inner one of two blocks of one name is left.
	plays(t, "p : com |- com : block k { block k { exit k }; p }", "0 3 4 1", "0 1")
}
