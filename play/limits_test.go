package play

import (
	"strings"
	"testing"

	"doppelganger/api"
)

// after returns a program that makes some steps ahead of its last command.
func after(steps int, last string) string {
	const perA, perB = 101, 1415 // what a further call of a or b makes, with the Seq that it needs
	rest := steps - 2
	row := strings.Repeat("b; ", rest/perB)
	rest %= perB
	row += strings.Repeat("a; ", rest/perA)
	rest %= perA
	if rest%2 == 1 {
		row += "while 0 { skip }; "
		rest -= 3
	}
	row += strings.Repeat("skip; ", rest/2)
	a := "proc a() : com { skip" + strings.Repeat("; skip", 49) + " } "
	b := "proc b() : com { a" + strings.Repeat("; a", 13) + " } "
	return "com : " + a + "{ " + b + "{ " + row + last + " } }"
}

// P2.5: as many steps as the limit allows, and one more.
func TestMostSteps(t *testing.T) {
	const most = api.MaxSteps
	outcomes(t, map[string]outcome{
		after(1000, "skip"):                      done(0, 1001),
		after(most-1, "skip"):                    done(0, most),
		after(most, "skip"):                      full,
		after(most-1, "fault"):                   faulted(most),
		after(most, "fault"):                     full,
		after(most-1, "stop"):                    never,
		after(most, "stop"):                      full,
		after(most-2, "block k { exit k }"):      done(0, most),
		after(most-1, "block k { exit k }"):      full,
		after(most-2, "while 0 { skip }"):        done(0, most),
		after(most-1, "while 0 { skip }"):        full,
		after(most-3, "new x = 0 { x := 1 }"):    full,
		after(most-4, "new x = 0 { x := 1 }"):    done(0, most),
		after(most-2, "if 1 { skip } { fault }"): full,
		// The While asks again behind the last step that may be made, and it is clear then.
		after(most-3, "while 1 { skip }"): never,
		after(most-2, "while 1 { skip }"): full,
	})
}

// P2.5: it is clear that a While never ends when all variables have the values of an earlier time, not before.
func TestEndlessLoops(t *testing.T) {
	outcomes(t, map[string]outcome{
		"com : while 1 { skip; skip }":                                         never,
		"com : new x = 1 { while x { x := 1 } }":                               never,
		"com : new x = 1 { while x { x := x + 2 } }":                           never,
		"com : new x = 1 { while x { x := x * 2 } }":                           done(0, 14),
		"com : while 1 { new x = 0 { x := x + 1 } }":                           never,
		"com : while 1 { fault }":                                              faulted(3),
		"com : while 1 { while 0 { skip } }":                                   never,
		"com : while do { while 1 { skip } } [ 1 ] { fault }":                  never,
		"com : block k { while 1 { block j { exit j } } }":                     never,
		"exp : do { block k { while 1 { while 1 { exit k } } } } [ 1 ]":        done(1, 8),
		"com : proc f(x : com) : com { while 1 { x } } { f({ skip }) }":        never,
		"com : proc f(x : com) : com { while 1 { x } } { f({ f({ skip }) }) }": never,
		// What was new in a turn is forgotten when it asks again.
		"com : proc f(x : val) : com { skip } { while 1 { f(1) } }":                               never,
		"com : while 1 { block k { new x = 1 { exit k } } }":                                      never,
		"com : proc f(x : val, y : com) : com { y } { while 1 { block k { f(1, { exit k }) } } }": never,
		// Each beginning of a While is a new one: the inner one asks with the same values in each turn.
		"exp : new x = 3 [ do { while x { while 0 { skip }; x := x - 1 } } [ x ] ]": done(0, 30),
		"exp : proc f() : exp [ do { while 0 { skip } } [ 1 ] ] [ f + f + f ]":      done(3, 18),
		// Variables count that are out of sight where the While stands.
		"com : proc f(x : exp) : com { while x { skip } } { new y = 3 { f(do { y := y - 1 } [ y ]) } }":                       done(0, 28),
		"com : proc f(x : exp, y : com) : com { while x { y } } { new n = 3 { f(n, { n := n - 1 }) } }":                       done(0, 28),
		"com : proc f(x : com) : com { new n = 2 { while n { n := n - 1; x } } } { f({ f({ skip }) }) }":                      done(0, 62),
		"com : new y = 2 { proc f(x : exp) : com { new y = 0 { while x { skip } } } { f(do { y := y - 1 } [ y ]) } }":         done(0, 22),
		"com : proc f(x : val, y : com) : com { while 1 { y; x := x + 1; if x == 0 { fault } { skip } } } { f(2, { skip }) }": faulted(32),
	})
}

// counter returns a program that counts in some variables for ever: each row of values that they can have comes up before the first one does again.
func counter(variables int) string {
	text := "skip"
	for i := range variables {
		name := "v" + string(rune('a'+i))
		text = name + " := " + name + " + 1; if " + name + " { skip } { " + text + " }"
	}
	text = "while 1 { " + text + " }"
	for i := range variables {
		text = "new v" + string(rune('a'+i)) + " = 0 { " + text + " }"
	}
	return "com : " + text
}

// P2.5: what would need too many steps until it is clear is ErrFull.
func TestLongLoops(t *testing.T) {
	outcomes(t, map[string]outcome{counter(1): never, counter(4): never, counter(5): never, counter(6): full})
}

// nested returns a program, which may use the name many: a call of it runs its argument within 2^levels runs of a body, each within the other.
func nested(levels int, body, program string) string {
	text := "proc fa(x : com) : com { " + body + " } "
	last := "fa"
	for i := range levels {
		next := "f" + string(rune('b'+i))
		text += "{ proc " + next + "(x : com) : com { " + last + "({ " + last + "({ x }) }) } "
		last = next
	}
	return "com : " + text + "{ " + strings.ReplaceAll(program, "many", last) + strings.Repeat(" }", levels+1)
}

// P1, P2.3: what is begun thousands of times within itself is run and left, too. (If the body makes n steps with its call, a call of many makes (n + 2) * 2^levels - 2.)
func TestDeepRuns(t *testing.T) {
	outcomes(t, map[string]outcome{
		nested(10, "block k { x }", "many({ skip })"):                             done(0, 11+5118+1),
		nested(11, "block k { x }", "many({ skip })"):                             done(0, 12+10238+1),
		nested(12, "block k { x }", "many({ skip })"):                             full,
		nested(11, "block k { x }", "many({ fault })"):                            faulted(12 + 10238 + 1),
		nested(11, "block k { x }", "many({ stop })"):                             never,
		nested(11, "block k { x }", "many({ while 1 { skip } })"):                 never,
		nested(11, "block k { x; stop }", "block out { many({ exit out }) }"):     done(0, 12+1+12286+1),
		nested(10, "block k { x; exit k; stop }", "many({ skip })"):               done(0, 11+8190+1),
		nested(10, "new y = 3 { while y { y := 0; x } }", "many({ skip })"):       done(0, 11+12286+1),
		nested(10, "new y = 3 { while y { x } }", "many({ skip })"):               never,
		nested(11, "new y = 3 { x }", "block k { while 1 { many({ exit k }) } }"): done(0, 12+3+12286+1),
	})
}
