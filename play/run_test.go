package play

import "testing"

// The examples of the chapter.
func TestExamples(t *testing.T) {
	outcomes(t, map[string]outcome{
		"com : skip":             done(0, 1),
		"com : skip; skip":       done(0, 3),
		"com : fault; skip":      faulted(2),
		"exp : 2 + 3 * 3":        done(3, 5),
		"exp : 1 - 2 == 3":       done(1, 5),
		"com : while 0 { stop }": done(0, 2),
		"com : while 1 { skip }": never,
		"com : stop":             never,
		"com : new x = 3 { while x { x := x - 1 } }":                                                         done(0, 19),
		"exp : new x = 1 [ do { x := x + 1; x := x * x } [ x ] ]":                                            done(0, 13),
		"com : proc f(x : com) : com { x; x } { f({ skip }) }":                                               done(0, 7),
		"exp : new y = 0 [ proc f(x : exp) : exp [ new y = 3 [ x ] ] [ f(y) ] ]":                             done(0, 8),
		"exp : new n = 0 [ proc f(x : exp) : exp [ x + x ] [ f(do { n := n + 1 } [ n ]) ] ]":                 done(3, 19),
		"exp : new n = 0 [ proc f(x : val) : exp [ x + x ] [ f(do { n := n + 1 } [ n ]) ] ]":                 done(2, 13),
		"com : block k { exit k; fault }":                                                                    done(0, 3),
		"com : block k { skip }":                                                                             done(0, 2),
		"exp : new n = 0 [ do { block k { while 1 { n := n + 1; if n == 2 { exit k } { skip } } } } [ n ] ]": done(2, 28),
		"com : proc f(x : com) : com { x; fault } { block k { f({ exit k }) } }":                             done(0, 6),
		"com : new x = 0 { while 1 { x := x + 1 } }":                                                         never,
	})
}

// P2.1: commands one after another, conditions, variables, stop and fault.
func TestCommands(t *testing.T) {
	outcomes(t, map[string]outcome{
		"com : skip; fault; stop":                                       faulted(4),
		"com : stop; fault":                                             never,
		"exp : stop":                                                    never,
		"exp : fault":                                                   faulted(1),
		"com : if 1 { fault } { stop }":                                 faulted(3),
		"com : if 3 { fault } { stop }":                                 faulted(3),
		"com : if 0 { fault } { stop }":                                 never,
		"com : if fault { stop } { stop }":                              faulted(2),
		"exp : if 2 [ 3 ] [ fault ]":                                    done(3, 3),
		"exp : if 0 [ fault ] [ 2 ]":                                    done(2, 3),
		"com : while 0 { fault }":                                       done(0, 2),
		"com : while 2 { fault }":                                       faulted(3),
		"com : while fault { stop }":                                    faulted(2),
		"exp : do { skip; skip } [ 2 ]":                                 done(2, 5),
		"exp : do { fault } [ stop ]":                                   faulted(2),
		"exp : do { stop } [ fault ]":                                   never,
		"exp : new x = 2 [ 1 ]":                                         done(1, 3),
		"exp : new x = fault [ stop ]":                                  faulted(2),
		"com : new x = 1 { x := fault }":                                faulted(4),
		"exp : new x = 1 [ new x = x + 1 [ x ] ]":                       done(2, 7),
		"exp : new x = 1 [ new x = 2 [ 0 ] + x ]":                       done(1, 7),
		"exp : new x = 3 [ new y = x [ y - x ] ]":                       done(0, 7),
		"exp : new x = 1 [ do { x := 3 } [ x ] ]":                       done(3, 6),
		"exp : new x = 1 [ do { new x = 2 { x := 3 } } [ x ] ]":         done(1, 8),
		"exp : new x = 1 [ new y = 2 [ do { y := x; x := 3 } [ y ] ] ]": done(1, 11),
		"exp : new n = 0 [ new i = 2 [ do { while i { new x = 0 { x := x + 1; n := n + x }; i := i - 1 } } [ n ] ] ]": done(2, 42),
	})
}

// P2.1 and P6: operands from the left to the right, each once, and numbers modulo Width.
func TestOperators(t *testing.T) {
	outcomes(t, map[string]outcome{
		"exp : 3 + 1":            done(0, 3),
		"exp : 3 + 3":            done(2, 3),
		"exp : 3 - 1":            done(2, 3),
		"exp : 0 - 1":            done(3, 3),
		"exp : 0 - 3":            done(1, 3),
		"exp : 3 * 3":            done(1, 3),
		"exp : 2 * 2":            done(0, 3),
		"exp : 2 == 2":           done(1, 3),
		"exp : 2 == 1":           done(0, 3),
		"exp : 1 < 2":            done(1, 3),
		"exp : 2 < 2":            done(0, 3),
		"exp : 3 < 2":            done(0, 3),
		"exp : 3 + 1 < 1":        done(1, 5),
		"exp : 0 < 0 - 1":        done(1, 5),
		"exp : fault + stop":     faulted(2),
		"exp : stop - fault":     never,
		"exp : 2 * fault":        faulted(3),
		"exp : 0 * fault":        faulted(3),
		"exp : fault == stop":    faulted(2),
		"exp : stop < fault":     never,
		"exp : 1 - fault + stop": faulted(4),
		"exp : new x = 1 [ x + do { x := 2 } [ x ] ]":     done(3, 8),
		"exp : new x = 1 [ do { x := 2 } [ x ] + x ]":     done(0, 8),
		"exp : new x = 1 [ x - do { x := 3 } [ 0 ] ]":     done(1, 8),
		"exp : new x = 2 [ x * do { x := 3 } [ x ] ]":     done(2, 8),
		"exp : new x = 1 [ x == do { x := 2 } [ x ] ]":    done(0, 8),
		"exp : new x = 1 [ do { x := 2 } [ x ] == x ]":    done(1, 8),
		"exp : new x = 2 [ x < do { x := 3 } [ x ] ]":     done(1, 8),
		"exp : new x = 1 [ do { x := x + x } [ x ] < 3 ]": done(1, 10),
	})
}

// P2.2: arguments by value are run first, once, and are new variables of the call.
func TestArgumentsByValue(t *testing.T) {
	outcomes(t, map[string]outcome{
		"exp : proc f(x : val) : exp [ 2 ] [ f(fault) ]":                                                                 faulted(3),
		"exp : proc f(x : val) : exp [ fault ] [ f(stop) ]":                                                              never,
		"exp : proc f(x : val, y : val) : exp [ x - y ] [ f(3, 1) ]":                                                     done(2, 7),
		"exp : proc f(x : val, y : val) : exp [ 0 ] [ f(fault, stop) ]":                                                  faulted(3),
		"exp : proc f(x : val, y : val) : exp [ 0 ] [ f(stop, fault) ]":                                                  never,
		"exp : proc f(x : exp, y : val) : exp [ x ] [ f(fault, stop) ]":                                                  never,
		"exp : proc f(x : exp, y : val) : exp [ x ] [ f(fault, 1) ]":                                                     faulted(5),
		"exp : new n = 0 [ proc f(x : val, y : exp, z : val) : exp [ y * 2 + z ] [ f(do { n := n + 1 } [ n ], n, n) ] ]": done(3, 17),
		"exp : new n = 1 [ proc f(x : exp, y : val) : exp [ x ] [ f(n, do { n := 3 } [ n ]) ] ]":                         done(3, 10),
		"exp : new n = 1 [ proc f(x : val) : exp [ do { n := 3 } [ x ] ] [ f(n) ] ]":                                     done(1, 9),
		"exp : new n = 1 [ proc f(x : val) : exp [ do { x := x + 1 } [ x ] ] [ f(n) + n ] ]":                             done(3, 13),
		"exp : proc f(x : val) : exp [ do { x := x + 1 } [ x ] ] [ f(0) + f(0) ]":                                        done(2, 18),
		"exp : new x = 1 [ proc f(x : val) : exp [ x ] [ f(x + 1) + x ] ]":                                               done(3, 10),
		"exp : new y = 1 [ proc f(x : val, y : val) : exp [ x * 2 + y ] [ f(y, 0) ] ]":                                   done(2, 11),
		"exp : proc f(x : val) : exp [ x + 1 ] [ f(f(f(0))) ]":                                                           done(3, 14),
	})
}

// P2.2: arguments by name are run where they are called, each time anew, on the variables as they are then.
func TestArgumentsByName(t *testing.T) {
	outcomes(t, map[string]outcome{
		"exp : proc f(x : com) : exp [ 2 ] [ f({ fault }) ]":                                                done(2, 3),
		"exp : proc f(x : exp) : exp [ 2 ] [ f(stop) ]":                                                     done(2, 3),
		"com : proc f(x : com, y : com) : com { y; x } { f({ stop }, { fault }) }":                          faulted(5),
		"exp : proc f(x : com, y : exp) : exp [ do { x } [ y ] ] [ f({ skip }, 3) ]":                        done(3, 7),
		"exp : new n = 1 [ proc f(x : exp) : exp [ do { n := 2 } [ x ] ] [ f(n) ] ]":                        done(2, 9),
		"exp : new n = 0 [ proc f(x : com) : exp [ do { x; n := n * 2; x } [ n ] ] [ f({ n := n + 1 }) ] ]": done(3, 22),
		"exp : proc f(x : exp) : exp [ x + 1 ] [ f(f(f(0))) ]":                                              done(3, 14),
		"exp : proc f(x : exp) : exp [ x + 1 ] [ proc g(x : exp) : exp [ f(x * 2) ] [ g(1) ] ]":             done(3, 11),
	})
}

// P2.2: bodies and arguments see what is bound where they stand, not where they are run.
func TestBindings(t *testing.T) {
	outcomes(t, map[string]outcome{
		"com : proc f() : com { fault } { skip }":                                                                                     done(0, 2),
		"com : proc f() : com { fault } { f }":                                                                                        faulted(3),
		"exp : proc f() : exp [ 1 ] [ f + f ]":                                                                                        done(2, 6),
		"exp : new y = 1 [ proc f() : exp [ y ] [ new y = 2 [ f ] ] ]":                                                                done(1, 7),
		"exp : new y = 1 [ proc f() : exp [ y ] [ new y = 2 [ do { y := 3 } [ f ] ] ] ]":                                              done(1, 10),
		"exp : new y = 1 [ proc f() : exp [ y ] [ do { y := 3 } [ f ] ] ]":                                                            done(3, 8),
		"exp : proc g() : exp [ 1 ] [ proc f() : exp [ g ] [ proc g() : exp [ 2 ] [ f * 2 + g ] ] ]":                                  done(0, 11),
		"exp : proc f() : exp [ 1 ] [ proc f() : exp [ f + 1 ] [ f ] ]":                                                               done(2, 7),
		"exp : proc f(f : exp) : exp [ f + 1 ] [ f(f(1)) ]":                                                                           done(3, 10),
		"exp : new x = 1 [ proc f(x : exp) : exp [ x ] [ f(x + 1) ] ]":                                                                done(2, 8),
		"exp : proc f(x : exp, y : exp) : exp [ proc x() : exp [ 3 ] [ y ] ] [ proc x() : exp [ 2 ] [ f(1, x) ] ]":                    done(2, 7),
		"exp : new y = 2 [ proc f(x : exp) : exp [ new y = 0 [ do { y := 1 } [ x ] ] ] [ new y = 3 [ f(y) ] ] ]":                      done(3, 13),
		"exp : new y = 0 [ proc f(x : com) : exp [ new y = 3 [ do { x } [ y ] ] ] [ f({ y := 1 }) + y ] ]":                            done(0, 13),
		"exp : new n = 0 [ new i = 2 [ do { while i { new x = i { proc f() : com { n := n + x } { f; f } }; i := i - 1 } } [ n ] ] ]": done(2, 48),
	})
}

// P2.3: an exit leaves the run of its block, and what was begun and bound in it.
func TestExits(t *testing.T) {
	outcomes(t, map[string]outcome{
		"com : block k { exit k }; fault":                                              faulted(4),
		"com : block k { block k { exit k }; fault }":                                  faulted(5),
		"com : block k { block j { exit k }; fault }":                                  done(0, 4),
		"com : block k { if exit k { fault } { fault } }":                              done(0, 3),
		"com : block k { while 1 { exit k } }":                                         done(0, 4),
		"com : block k { while exit k { fault } }":                                     done(0, 3),
		"com : block k { fault }":                                                      faulted(2),
		"com : block k { stop }":                                                       never,
		"exp : do { block k { new x = exit k { fault } } } [ 2 ]":                      done(2, 5),
		"exp : do { block k { proc f(x : val) : com { fault } { f(exit k) } } } [ 3 ]": done(3, 6),
		// The variables that were new in the run are forgotten, the others keep what they have.
		"exp : new x = 1 [ do { block k { new y = 2 { x := 3; exit k } } } [ new z = 0 [ x + z ] ] ]":                  done(3, 15),
		"exp : new x = 1 [ do { block k { new x = 2 { exit k } } } [ x ] ]":                                            done(1, 8),
		"exp : proc f(x : val) : com { new y = x { block k { new z = 3 { exit k } }; x := y } } [ do { f(2) } [ 1 ] ]": done(1, 14),
		// An exit in an argument leaves the procedure that runs it, and the one in a body may leave what calls it.
		"com : block k { proc f() : com { exit k } { f; fault } }":                                                             done(0, 5),
		"com : proc f(x : com) : com { block k { x }; fault } { block k { f({ exit k }) } }":                                   done(0, 7),
		"com : proc f(x : com) : com { block k { x; fault } } { block j { f({ exit j }); fault }; f({ block k { exit k } }) }": faulted(16),
		// Of two runs of one block an exit leaves the one in which its label was bound.
		"exp : new n = 0 [ proc f(x : com) : com { block k { x; exit k }; n := n + 1 } [ do { f({ f({ skip }) }) } [ n ] ] ]":       done(2, 26),
		"exp : new n = 0 [ proc f(x : com) : com { block j { x }; n := n + 1 } [ do { f({ block k { f({ exit k }) } }) } [ n ] ] ]": done(1, 19),
	})
}
