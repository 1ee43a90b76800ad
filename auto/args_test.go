package auto

import (
	"math/rand"
	"testing"

	"doppelganger/api"
)

// notValid are machines that are not valid, of both kinds.
func notValid() map[string]api.Machine {
	return map[string]api.Machine{
		"the zero value":       {},
		"letters below 0":      {Letters: -1, Start: nowhere},
		"a bad row":            {Letters: 1, Next: [][]int{{0, 0}}, End: flags(1)},
		"a bad next state":     machine(1, "*[1]"),
		"a bad end":            {Letters: 1, Next: [][]int{{0}}},
		"a bad start":          {Letters: 1, Start: 1, Next: [][]int{{0}}, End: flags(1)},
		"no start":             {Letters: 1, Start: nowhere, Next: [][]int{{0}}, End: flags(1)},
		"a start far off":      {Letters: 1, Start: -1 << 63, Next: [][]int{{1<<63 - 1}}, End: flags(1)},
		"too many states":      wide(1, api.MaxStates+1),
		"too many letters":     wide(api.MaxSigns+1, 1),
		"too many letters, no": {Letters: api.MaxSigns + 1, Start: nowhere},
	}
}

func TestNotValidIsAheadOfAll(t *testing.T) {
	for name, bad := range notValid() {
		got, err := Least(bad)
		wantNone(t, "Least of "+name, got, err, api.ErrArg)
		for _, hidden := range [][]bool{nil, flags(max(bad.Letters, 0))} {
			got, err = Hide(bad, hidden)
			wantNone(t, "Hide of "+name, got, err, api.ErrArg)
		}
		for _, length := range []int{-1, 0, 3} {
			if count, err := Count(bad, length); count != 0 || err != api.ErrArg {
				t.Errorf("Count of %s: %d, %d", name, count, err)
			}
		}
		// Another machine of the same letters, of others, and a bad one.
		for _, other := range []api.Machine{all(), machine(2, "*[0 0]"), {}, wide(1, api.MaxStates+1)} {
			refusesPair(t, name, bad, other, api.ErrArg)
			refusesPair(t, name, other, bad, api.ErrArg)
		}
	}
}

// refusesPair checks that all functions with two machines return an error.
func refusesPair(t *testing.T, name string, a, b api.Machine, want api.Errno) {
	t.Helper()
	if word, first, err := Differ(a, b); word != nil || first || err != want {
		t.Errorf("Differ, %s: %v, %v, %d", name, word, first, err)
	}
	if pairs, err := Relate(a, b); pairs != nil || err != want {
		t.Errorf("Relate, %s: %v, %d", name, pairs, err)
	}
	for _, list := range [][]api.Pair{nil, pairs(0, 0), pairs(5, 5), pairs(-1, -1)} {
		if err := Check(a, b, list); err != want {
			t.Errorf("Check, %s, %v: %d", name, list, err)
		}
	}
	got, err := Both(a, b)
	wantNone(t, "Both, "+name, got, err, want)
	got, err = Either(a, b)
	wantNone(t, "Either, "+name, got, err, want)
}

func TestOtherLetters(t *testing.T) {
	machines := []api.Machine{machine(0, ""), machine(1, "*[0]"), machine(2, ""), machine(3, "[0 0 0]"), wide(api.MaxSigns, 5)}
	for i, a := range machines {
		for j, b := range machines {
			if i != j {
				refusesPair(t, "other letters", a, b, api.ErrType)
			}
		}
	}
}

// overwriteAll calls all functions, and overwrites what they return.
func overwriteAll(t *testing.T, a, b api.Machine, hidden []bool) {
	t.Helper()
	overwrite := func(m api.Machine, err api.Errno) {
		for state, row := range m.Next {
			m.End[state] = !m.End[state]
			for letter := range row {
				row[letter] = 77
			}
		}
		if err != api.OK {
			t.Fatalf("error %d", err)
		}
	}
	overwrite(Least(a))
	overwrite(Both(a, b))
	overwrite(Either(a, b))
	overwrite(Hide(a, hidden))
	word, _, _ := Differ(a, b)
	for i := range word {
		word[i] = 77
	}
	list, _ := Relate(a, a)
	Check(a, a, list)
	for i := range list {
		list[i] = api.Pair{A: 77, B: 77}
	}
	Valid(a)
	Accepts(a, []int{0, 0})
	Count(a, 3)
}

func TestArgumentsAreNeitherChangedNorKept(t *testing.T) {
	r := rand.New(rand.NewSource(14))
	for range 300 {
		a, b := anyMachine(r, 2, 6), anyMachine(r, 2, 6)
		if least, _ := Least(a); r.Intn(2) == 0 {
			a = least // what is least need not be changed, but is copied all the same
		}
		hidden := []bool{r.Intn(2) == 0, false}
		wasA, wasB, wasHidden := clone(a), clone(b), append([]bool{}, hidden...)
		overwriteAll(t, a, b, hidden)
		if !same(a, wasA) || !same(b, wasB) || !sameSlices(hidden, wasHidden) {
			t.Fatalf("an argument has changed: %s, %s, %v", text(a), text(b), hidden)
		}
		want, _ := Least(wasA)
		got, err := Least(a)
		wantMachine(t, "Least once more", got, err, want)
	}
}

func TestCheckKeepsPairs(t *testing.T) {
	list := pairs(2, 0, 0, 0, 1, 1)
	Check(machine(1, "*[1], [2], *[1]"), even(), list)
	if !sameSlices(list, pairs(2, 0, 0, 0, 1, 1)) {
		t.Errorf("Check has changed the pairs: %v", list)
	}
}

// Rows may share memory in an argument, but not in a result.
func TestRowsAreApart(t *testing.T) {
	row := []int{1, 0}
	m := api.Machine{Letters: 2, Next: [][]int{row, row}, End: []bool{true, false}}
	got, err := Least(m)
	wantMachine(t, "Least", got, err, machine(2, "*[1 0], [1 0]"))
	got.Next[0][0] = 77
	if got.Next[1][0] != 1 || row[0] != 1 {
		t.Errorf("rows share memory: %v, %v", got.Next, row)
	}
}
