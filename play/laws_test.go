package play

import (
	"strings"
	"testing"

	"doppelganger/api"
)

// around is what the programs of the laws have around the commands that they compare: variables x and y, of which each can be asked for in the end, and a block k that may be left.
func around(command, asked string) string {
	return "|- exp : new x = 2 [ new y = 1 [ do { block k { " + command + " } } [ " + asked + " ] ] ]"
}

// newMakerWithin makes terms that may use what is bound around them, and more.
func newMakerWithin(seed int, more ...bound) *maker {
	m := newMaker(seed)
	m.bound = append([]bound{{name: "x"}, {name: "y"}, {name: "k", sort: label}}, more...)
	return m
}

// law compares the programs that pair makes of seeds, each of which is a pair of commands that have to come to the same.
func law(t *testing.T, pair func(seed int) (left, right string)) {
	t.Helper()
	ended := 0
	for seed := range 1500 {
		left, right := pair(seed)
		for _, asked := range []string{"x", "y"} {
			a := outcomeOf(mustRead(t, around(left, asked)))
			b := outcomeOf(mustRead(t, around(right, asked)))
			if a == full || b == full {
				continue
			}
			if !sameEnd(a, b) {
				t.Fatalf("%q: %v, but %q: %v", left, a, right, b)
			}
			if a.result == api.Done {
				ended++
			}
		}
	}
	if ended < 600 {
		t.Errorf("only %d of the programs end", ended)
	}
}

// P2.6: a row comes to what its parts come to, in one step more than both make if the first one ends.
func TestRows(t *testing.T) {
	both := 0
	for seed := range 3000 {
		m := newMaker(seed)
		left, right := m.com(3), m.com(3)
		a := outcomeOf(mustRead(t, "|- com : "+left))
		b := outcomeOf(mustRead(t, "|- com : "+right))
		got := outcomeOf(mustRead(t, "|- com : "+left+"; "+right))
		if a.result != api.Done {
			if !sameEnd(got, a) {
				t.Errorf("%q; %q: %v; want what comes of the first one, %v", left, right, got, a)
			}
			continue
		}
		both++
		want := b
		if b.result != api.Never {
			want.steps += a.steps + 1
		}
		if got != want {
			t.Errorf("%q; %q: %v; want %v", left, right, got, want)
		}
	}
	if both < 500 {
		t.Errorf("only %d rows come to their second part", both)
	}
}

// P2.7: a While comes to what its first turn, and then the While again, come to.
func TestTurns(t *testing.T) {
	law(t, func(seed int) (left, right string) {
		m := newMakerWithin(seed)
		test, body := m.exp(1), m.com(3)
		loop := "while " + test + " { " + body + " }"
		return loop, "if " + test + " { " + body + "; " + loop + " } { skip }"
	})
}

// P2.8: a call comes to its body, with the arguments by name in the place of their parameters, within variables for those by value.
func TestCalls(t *testing.T) {
	law(t, func(seed int) (left, right string) {
		params := []bound{{name: "pc", sort: routines, result: api.Com}, {name: "pe", sort: routines, result: api.Exp}, {name: "pv"}}
		body := newMakerWithin(seed, params...).com(4)
		m := newMakerWithin(seed + 1000000)
		com, exp, val := m.com(2), m.exp(2), m.exp(2)
		call := "proc p(pc : com, pv : val, pe : exp) : com { " + body + " } { p({ " + com + " }, " + val + ", " + exp + ") }"
		body = strings.ReplaceAll(strings.ReplaceAll(body, "pc", com), "pe", "("+exp+")")
		return call, "new pv = " + val + " { " + body + " }"
	})
}

// P2.8: likewise for several arguments by value.
func TestCallsWithValues(t *testing.T) {
	law(t, func(seed int) (left, right string) {
		body := newMakerWithin(seed, bound{name: "pv"}, bound{name: "pw"}, bound{name: "pu"}).exp(4)
		m := newMakerWithin(seed + 1000000)
		v, w, u := m.exp(1), m.exp(2), m.exp(1)
		call := "x := proc p(pv : val, pw : val, pu : val) : exp [ " + body + " ] [ p(" + v + ", " + w + ", " + u + ") ]"
		return call, "x := new pv = " + v + " [ new pw = " + w + " [ new pu = " + u + " [ " + body + " ] ] ]"
	})
}

// P2.9: a Block whose label is not left comes to its command.
func TestBlocks(t *testing.T) {
	law(t, func(seed int) (left, right string) {
		body := newMakerWithin(seed).com(4)
		return "block z { " + body + " }; x := x + y", body + "; x := x + y"
	})
}

// P2.9: what stands behind an Exit in a row is never run.
func TestBehindExits(t *testing.T) {
	law(t, func(seed int) (left, right string) {
		m := newMakerWithin(seed)
		ahead, behind := m.com(3), m.com(3)
		return "block z { " + ahead + "; exit z; " + behind + " }; x := x + y", ahead + "; x := x + y"
	})
}
