package parts

import (
	"slices"
	"strconv"
	"testing"

	"doppelganger/api"
	"doppelganger/lang"
	"doppelganger/play"
)

// answer is what comes of an operation in a state.
type answer struct {
	result api.Result
	value  int
	after  string // the state behind it, if it ends
}

// answerTo runs an operation of a plan in a state, as a text. It reports false if a limit is in the way.
func (p plan) answerTo(t *testing.T, op int, state string) (answer, bool) {
	t.Helper()
	program := func(what string) string {
		if p.types[op] == api.Com {
			what = "do { " + p.ops[op] + " } [ " + what + " ]"
		} else if what == "answer" {
			what = p.ops[op]
		} else {
			what = "new answer = " + p.ops[op] + " [ " + what + " ]"
		}
		for i, name := range slices.Backward(p.vars) {
			what = "new " + name + " = " + state[i:i+1] + " [ " + what + " ]"
		}
		return "|- exp : " + what
	}
	what := "answer"
	if p.types[op] == api.Com {
		what = "0"
	}
	var a answer
	var ok bool
	if a.result, a.value, ok = outcomeOf(t, program(what)); !ok || a.result != api.Done {
		return a, ok
	}
	for _, name := range p.vars {
		_, value, ok := outcomeOf(t, program(name))
		if !ok {
			return a, false
		}
		a.after += strconv.Itoa(value)
	}
	return a, true
}

// outcomeOf runs the text of a program.
func outcomeOf(t *testing.T, text string) (result api.Result, value int, ok bool) {
	t.Helper()
	p, err := lang.Read(text)
	if err == api.ErrFull || len(text) > api.MaxText {
		return 0, 0, false
	}
	if err != api.OK {
		t.Fatalf("no program: %d, %q", err, text)
	}
	result, value, _, err = play.Run(p)
	return result, value, err == api.OK
}

func (p plan) begin() string {
	return digits(p.values)
}

// related finds the pairs of states of two plans, from texts alone, and whether all that can be seen is the same. It reports false if a limit is in the way.
func related(t *testing.T, a, b plan) (pairs []string, same, ok bool) {
	t.Helper()
	type both struct{ a, b string }
	waiting := []both{{a.begin(), b.begin()}}
	met := map[both]bool{waiting[0]: true}
	for at := 0; at < len(waiting); at++ {
		now := waiting[at]
		pairs = append(pairs, now.a+" "+now.b)
		for op := range a.ops {
			one, okOne := a.answerTo(t, op, now.a)
			other, okOther := b.answerTo(t, op, now.b)
			if !okOne || !okOther {
				return nil, false, false
			}
			if one.result != other.result || one.value != other.value {
				return nil, false, true
			}
			next := both{one.after, other.after}
			if one.result == api.Done && !met[next] {
				met[next] = true
				waiting = append(waiting, next)
			}
		}
	}
	slices.Sort(pairs)
	return pairs, true, true
}
