package auto

import (
	"math/rand"
	"testing"

	"doppelganger/api"
)

// wide is a machine of some states and letters, without steps.
func wide(letters, states int) api.Machine {
	m := api.Machine{Letters: letters, Start: nowhere, End: flags(states)}
	for range states {
		m.Start = 0
		row := make([]int, letters)
		for letter := range row {
			row[letter] = nowhere
		}
		m.Next = append(m.Next, row)
	}
	return m
}

// changed is a machine of two states and two letters, after a change.
func changed(change func(m *api.Machine)) api.Machine {
	m := machine(2, "[1 -1], *[0 1]")
	change(&m)
	return m
}

func TestValid(t *testing.T) {
	for name, x := range map[string]struct {
		m    api.Machine
		want api.Errno
	}{
		"even":                              {even(), api.OK},
		"no states":                         {machine(2, ""), api.OK},
		"no letters, no states":             {machine(0, ""), api.OK},
		"no letters":                        {machine(0, "*[]"), api.OK},
		"no letters, nil row":               {api.Machine{Next: [][]int{nil}, End: flags(1)}, api.OK},
		"another start":                     {changed(func(m *api.Machine) { m.Start = 1 }), api.OK},
		"the zero value":                    {api.Machine{}, api.ErrArg},
		"letters below 0":                   {api.Machine{Letters: -1, Start: nowhere}, api.ErrArg},
		"letters below 0, with a state":     {api.Machine{Letters: -1, Next: [][]int{{}}, End: flags(1)}, api.ErrArg},
		"too few ends":                      {changed(func(m *api.Machine) { m.End = m.End[:1] }), api.ErrArg},
		"too many ends":                     {changed(func(m *api.Machine) { m.End = flags(3) }), api.ErrArg},
		"ends without states":               {api.Machine{Start: nowhere, End: flags(1)}, api.ErrArg},
		"a short row":                       {changed(func(m *api.Machine) { m.Next[1] = []int{0} }), api.ErrArg},
		"a long row":                        {changed(func(m *api.Machine) { m.Next[0] = []int{0, 0, 0} }), api.ErrArg},
		"a nil row":                         {changed(func(m *api.Machine) { m.Next[0] = nil }), api.ErrArg},
		"a next state that is none":         {changed(func(m *api.Machine) { m.Next[1][1] = 2 }), api.ErrArg},
		"a next state below -1":             {changed(func(m *api.Machine) { m.Next[0][0] = -2 }), api.ErrArg},
		"a start that is none":              {changed(func(m *api.Machine) { m.Start = 2 }), api.ErrArg},
		"a start below -1":                  {changed(func(m *api.Machine) { m.Start = -2 }), api.ErrArg},
		"no start, with states":             {changed(func(m *api.Machine) { m.Start = nowhere }), api.ErrArg},
		"a start below -1 without states":   {api.Machine{Letters: 1, Start: -2}, api.ErrArg},
		"a start without states":            {api.Machine{Letters: 1, Start: 0}, api.ErrArg},
		"all letters":                       {wide(api.MaxSigns, 1), api.OK},
		"too many letters":                  {wide(api.MaxSigns+1, 1), api.ErrFull},
		"too many letters, no states":       {wide(api.MaxSigns+1, 0), api.ErrFull},
		"all states":                        {wide(2, api.MaxStates), api.OK},
		"too many states":                   {wide(2, api.MaxStates+1), api.ErrFull},
		"too many states, no letters":       {wide(0, api.MaxStates+1), api.ErrFull},
		"too many letters, and a bad start": {api.Machine{Letters: api.MaxSigns + 1}, api.ErrArg},
		"too many states, and a bad row at the end": {func() api.Machine {
			m := wide(1, api.MaxStates+1)
			m.Next[api.MaxStates][0] = api.MaxStates + 1
			return m
		}(), api.ErrArg},
		"a next state behind all states": {func() api.Machine {
			m := wide(1, api.MaxStates+1)
			m.Next[0][0] = api.MaxStates
			return m
		}(), api.ErrFull},
	} {
		if got := Valid(x.m); got != x.want {
			t.Errorf("%s: %d; want %d", name, got, x.want)
		}
	}
}

func TestAccepts(t *testing.T) {
	two := machine(2, "[1 -1], *[0 1]")
	other := machine(2, "[1 -1], *[0 1]")
	other.Start = 1
	for _, x := range []struct {
		m    api.Machine
		word []int
		want bool
	}{
		{even(), []int{0, 0}, true}, {even(), []int{0}, false}, {even(), []int{1}, false}, {even(), nil, true}, {even(), []int{}, true},
		{even(), []int{-1}, false}, {even(), []int{0, 0, 1}, false}, {even(), []int{1, 0, 0}, false}, {even(), []int{0, -1, 0}, false},
		{two, nil, false}, {two, []int{0}, true}, {two, []int{0, 1, 1}, true}, {two, []int{1}, false}, {two, []int{1, 0}, false}, {two, []int{0, 0, 1, 0}, false}, {two, []int{0, 0, 0}, true}, {two, []int{0, 2}, false},
		{other, nil, true}, {other, []int{0}, false}, {other, []int{1}, true},
		{machine(2, ""), nil, false}, {machine(2, ""), []int{0}, false},
		{machine(0, "*[]"), nil, true}, {machine(0, "*[]"), []int{0}, false}, {machine(0, "[]"), nil, false},
	} {
		if got := Accepts(x.m, x.word); got != x.want {
			t.Errorf("Accepts of %s and %v: %v", text(x.m), x.word, got)
		}
	}
}

func TestAcceptsNothingIfNotValid(t *testing.T) {
	full := wide(0, api.MaxStates+1)
	full.End[0] = true
	for _, m := range []api.Machine{full, {}, {Next: [][]int{{}}, End: []bool{true, true}}, changed(func(m *api.Machine) { m.Start, m.Next[0][0] = 1, 7 })} {
		if Accepts(m, nil) {
			t.Errorf("a machine that is not valid accepts: %d states", len(m.Next))
		}
	}
}

func TestCount(t *testing.T) {
	every := machine(2, "*[0 0]")
	fibonacci := machine(2, "*[0 1], *[0 -1]")
	for _, x := range []struct {
		m      api.Machine
		length int
		want   uint64
	}{
		{even(), 4, 1}, {even(), 3, 0}, {even(), 0, 1}, {even(), 1000, 1}, {even(), 999, 0},
		{every, 64, 0}, {every, 63, 1 << 63}, {every, 0, 1}, {every, 10, 1024}, {every, 1000, 0},
		{machine(3, "*[0 0 0]"), 41, 36472996377170786403 % (1 << 64)}, {fibonacci, 3, 5}, {fibonacci, 10, 144},
		{machine(2, ""), 0, 0}, {machine(2, ""), 5, 0}, {machine(0, "*[]"), 0, 1}, {machine(0, "*[]"), 1, 0},
	} {
		if got, err := Count(x.m, x.length); got != x.want || err != api.OK {
			t.Errorf("Count of %s, %d: %d, %d; want %d", text(x.m), x.length, got, err, x.want)
		}
	}
	for _, length := range []int{-1, 1001, -1 << 63, 1<<63 - 1} {
		if got, err := Count(every, length); got != 0 || err != api.ErrArg {
			t.Errorf("Count of length %d: %d, %d", length, got, err)
		}
	}
}

func TestCountIsOfWords(t *testing.T) {
	r := rand.New(rand.NewSource(8))
	for range 300 {
		m := anyMachine(r, r.Intn(4), 5)
		for length := range 6 {
			want := uint64(0)
			words(m.Letters, length, func(word []int) bool {
				if len(word) == length && walk(m, word) {
					want++
				}
				return true
			})
			if got, err := Count(m, length); got != want || err != api.OK {
				t.Fatalf("Count of %s, %d: %d, %d; want %d", text(m), length, got, err, want)
			}
		}
	}
}
