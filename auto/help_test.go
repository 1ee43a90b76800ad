package auto

import (
	"fmt"
	"math/rand"
	"reflect"
	"strconv"
	"strings"
	"testing"

	"doppelganger/api"
)

// machine reads a machine as the document writes it: its rows, with * at states with End. Its Start is 0, or -1 without states.
func machine(letters int, text string) api.Machine {
	m := api.Machine{Letters: letters, Start: nowhere}
	if text == "" {
		return m
	}
	m.Start = 0
	for _, row := range strings.Split(text, ",") {
		row = strings.TrimSpace(row)
		m.End = append(m.End, strings.HasPrefix(row, "*"))
		next := []int{}
		for _, field := range strings.Fields(strings.Trim(row, "*[]")) {
			state, err := strconv.Atoi(field)
			if err != nil {
				panic(err)
			}
			next = append(next, state)
		}
		m.Next = append(m.Next, next)
	}
	return m
}

// text writes a machine as machine reads it, with its Start and Letters.
func text(m api.Machine) string {
	s := fmt.Sprintf("%d from %d:", m.Letters, m.Start)
	for state, row := range m.Next {
		end := ""
		if m.End[state] {
			end = "*"
		}
		s += fmt.Sprintf(" %s%v", end, row)
	}
	return s
}

// even accepts the words of an even length over one letter, all accepts all of them.
func even() api.Machine { return machine(1, "*[1], [0]") }
func all() api.Machine  { return machine(1, "*[0]") }

// same reports whether two machines are the same, state by state.
func same(a, b api.Machine) bool {
	return text(a) == text(b) && len(a.End) == len(b.End)
}

// wantMachine checks a result that is a machine.
func wantMachine(t *testing.T, call string, got api.Machine, err api.Errno, want api.Machine) {
	t.Helper()
	if err != api.OK || !same(got, want) {
		t.Errorf("%s: %s, %d; want %s", call, text(got), err, text(want))
	}
}

// wantNone checks that a result that is a machine is the zero value, with an error.
func wantNone(t *testing.T, call string, got api.Machine, err, want api.Errno) {
	t.Helper()
	if err != want || got.Letters != 0 || got.Start != 0 || len(got.Next) != 0 || len(got.End) != 0 {
		t.Errorf("%s: %s, %d; want the error %d alone", call, text(got), err, want)
	}
}

// cycle is a machine over some letters whose states letter 0 leads around; others lead nowhere. It has End where ends says so.
func cycle(letters, states int, ends func(state int) bool) api.Machine {
	m := api.Machine{Letters: letters}
	for state := range states {
		row := make([]int, letters)
		for letter := range row {
			row[letter] = nowhere
		}
		row[0] = (state + 1) % states
		m.Next = append(m.Next, row)
		m.End = append(m.End, ends(state))
	}
	return m
}

func always(int) bool          { return true }
func atZero(state int) bool    { return state == 0 }
func copied(w []int) []int     { return append([]int{}, w...) }
func flags(n int) []bool       { return make([]bool, n) }
func flagged(f ...bool) []bool { return f }

// anyMachine is some machine with a number of letters.
func anyMachine(r *rand.Rand, letters, most int) api.Machine {
	m := api.Machine{Letters: letters, Start: nowhere}
	n := r.Intn(most + 1)
	if n > 0 {
		m.Start = r.Intn(n)
	}
	holes := r.Intn(4)
	for range n {
		row := make([]int, letters)
		for letter := range row {
			row[letter] = r.Intn(n)
			if r.Intn(6) < holes {
				row[letter] = nowhere
			}
		}
		m.Next = append(m.Next, row)
		m.End = append(m.End, r.Intn(3) == 0)
	}
	return m
}

// clone copies a machine.
func clone(m api.Machine) api.Machine {
	c := api.Machine{Letters: m.Letters, Start: m.Start, End: append([]bool{}, m.End...)}
	for _, row := range m.Next {
		c.Next = append(c.Next, copied(row))
	}
	return c
}

// shuffled is a machine that accepts the same words: with its states in another order, some of them twice, and some that nothing leads to.
func shuffled(r *rand.Rand, m api.Machine) api.Machine {
	n := len(m.Next)
	if n == 0 {
		return clone(m)
	}
	of := r.Perm(n)
	for range r.Intn(4) {
		of = append(of, r.Intn(n))
	}
	places := make([][]int, n)
	for place, state := range of {
		places[state] = append(places[state], place)
	}
	some := func(state int) int {
		if state == nowhere {
			return nowhere
		}
		return places[state][r.Intn(len(places[state]))]
	}
	s := api.Machine{Letters: m.Letters, Start: some(m.Start)}
	for _, state := range of {
		row := make([]int, m.Letters)
		for letter := range row {
			row[letter] = some(m.Next[state][letter])
		}
		s.Next = append(s.Next, row)
		s.End = append(s.End, m.End[state])
	}
	return s
}

// words calls f with all words up to a length, by length and order, until it returns false.
func words(letters, longest int, f func(word []int) bool) {
	round := [][]int{{}}
	for length := 0; len(round) > 0; length++ {
		var next [][]int
		for _, word := range round {
			if !f(word) {
				return
			}
			for letter := 0; letter < letters && length < longest; letter++ {
				next = append(next, append(copied(word), letter))
			}
		}
		round = next
	}
}

// walk follows a word the plain way.
func walk(m api.Machine, word []int) bool {
	state := m.Start
	for _, letter := range word {
		if state >= 0 {
			state = m.Next[state][letter]
		}
	}
	return state >= 0 && m.End[state]
}

// sameSlices reports whether two slices have the same entries.
func sameSlices[T comparable](a, b []T) bool {
	return len(a) == 0 && len(b) == 0 || reflect.DeepEqual(a, b)
}
