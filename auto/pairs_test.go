package auto

import (
	"math/rand"
	"slices"
	"testing"

	"doppelganger/api"
)

func pairs(numbers ...int) []api.Pair {
	var p []api.Pair
	for i := 0; i < len(numbers); i += 2 {
		p = append(p, api.Pair{A: numbers[i], B: numbers[i+1]})
	}
	return p
}

func TestDiffer(t *testing.T) {
	long := machine(1, "*[1], [2], *[1]")
	for _, x := range []struct {
		a, b  api.Machine
		word  []int
		first bool
		err   api.Errno
	}{
		{even(), all(), []int{0}, false, api.OK},
		{all(), even(), []int{0}, true, api.OK},
		{even(), long, nil, false, api.ErrSame},
		{even(), even(), nil, false, api.ErrSame},
		{even(), machine(1, ""), nil, true, api.OK},
		{machine(1, ""), even(), nil, false, api.OK},
		{machine(1, ""), machine(1, "[0]"), nil, false, api.ErrSame},
		{machine(1, "[1], [-1]"), machine(1, ""), nil, false, api.ErrSame},
		{machine(1, ""), machine(1, ""), nil, false, api.ErrSame},
		{machine(1, "[1], *[-1]"), machine(1, ""), []int{0}, true, api.OK},
		{machine(0, "*[]"), machine(0, "[]"), nil, true, api.OK},
		{machine(0, "[]"), machine(0, ""), nil, false, api.ErrSame},
		// 1 0 and 0 1 differ, as does 1 1 1: the shorter ones come first, of these the first in order.
		{machine(2, "[1 2], [-1 3], [3 2], *[-1 -1]"), machine(2, "[1 2], [-1 -1], [-1 2]"), []int{0, 1}, true, api.OK},
		{machine(2, "[1 2], [-1 -1], [3 -1], *[-1 -1]"), machine(2, "[1 2], [-1 3], [-1 -1], *[-1 -1]"), []int{0, 1}, false, api.OK},
		{machine(2, "[1 2], [4 1], [3 2], *[-1 -1], [5 -1], *[-1 -1]"), machine(2, "[-1 -1]"), []int{1, 0}, true, api.OK},
	} {
		word, first, err := Differ(x.a, x.b)
		if !sameSlices(word, x.word) || first != x.first || err != x.err {
			t.Errorf("Differ of %s and %s: %v, %v, %d", text(x.a), text(x.b), word, first, err)
		}
	}
}

func TestDifferIsTheFirstWord(t *testing.T) {
	r := rand.New(rand.NewSource(5))
	for round := range 4000 {
		letters := r.Intn(4)
		a := anyMachine(r, letters, 4)
		b := anyMachine(r, letters, 4)
		if round%2 == 0 {
			b = nudged(r, shuffled(r, a))
		}
		word, first, err := Differ(a, b)
		if plainSame(a, b) {
			if word != nil || first || err != api.ErrSame {
				t.Fatalf("Differ of %s and %s: %v, %v, %d", text(a), text(b), word, first, err)
			}
			continue
		}
		if err != api.OK || walk(a, word) != first || walk(b, word) == first {
			t.Fatalf("Differ of %s and %s: %v, %v, %d", text(a), text(b), word, first, err)
		}
		words(letters, len(word), func(earlier []int) bool {
			if slices.Equal(earlier, word) {
				return false
			}
			if walk(a, earlier) != walk(b, earlier) {
				t.Fatalf("Differ of %s and %s: %v; %v is earlier", text(a), text(b), word, earlier)
			}
			return true
		})
	}
}

// nudged is a machine after at most one change.
func nudged(r *rand.Rand, m api.Machine) api.Machine {
	if len(m.Next) == 0 {
		return m
	}
	state := r.Intn(len(m.Next))
	switch r.Intn(3) {
	case 0:
		m.End[state] = !m.End[state]
	case 1:
		if m.Letters > 0 {
			m.Next[state][r.Intn(m.Letters)] = r.Intn(len(m.Next)+1) - 1
		}
	}
	return m
}

// The first word may be as long as the states of both together: these cycles leave out one length in 1999, or in 2000.
func TestDifferOfLongWords(t *testing.T) {
	a := cycle(2, 1999, func(state int) bool { return state != 1998 })
	b := cycle(2, 2000, func(state int) bool { return state != 1998 })
	word, first, err := Differ(a, b)
	if !sameSlices(word, make([]int, 1998+1999)) || first || err != api.OK {
		t.Errorf("Differ: %d letters, %v, %d", len(word), first, err)
	}
	double := cycle(2, 4000, func(state int) bool { return state%2000 != 1998 })
	if _, _, err := Differ(double, b); err != api.ErrSame {
		t.Errorf("Differ of the same words: %d", err)
	}
}

// Two machines may have sixteen million pairs of states. Differ has no limit, and need not look at all of them.
func TestDifferOfManyPairs(t *testing.T) {
	r := rand.New(rand.NewSource(9))
	great := func() api.Machine {
		m := cycle(20, api.MaxStates, always)
		for _, row := range m.Next {
			for letter := 1; letter < len(row); letter++ {
				row[letter] = r.Intn(api.MaxStates)
			}
		}
		return m
	}
	a, b := great(), great()
	if word, _, err := Differ(a, b); word != nil || err != api.ErrSame {
		t.Errorf("Differ: %v, %d", word, err)
	}
	if pairs, err := Relate(a, b); pairs != nil || err != api.ErrFull {
		t.Errorf("Relate: %d pairs, %d", len(pairs), err)
	}
	b.Next[plainPairs(b, b)[api.MaxStates-1].A][7] = nowhere
	word, first, err := Differ(a, b)
	if !first || err != api.OK || word[len(word)-1] != 7 || walk(b, word) {
		t.Errorf("Differ: %v, %v, %d", word, first, err)
	}
	if pairs, err := Relate(a, b); pairs != nil || err != api.ErrApart {
		t.Errorf("Relate of machines that are apart: %d pairs, %d", len(pairs), err)
	}
}

func TestRelate(t *testing.T) {
	long := machine(1, "*[1], [2], *[1]")
	for _, x := range []struct {
		a, b api.Machine
		want []api.Pair
		err  api.Errno
	}{
		{long, even(), pairs(0, 0, 1, 1, 2, 0), api.OK},
		{even(), long, pairs(0, 0, 0, 2, 1, 1), api.OK},
		{even(), even(), pairs(0, 0, 1, 1), api.OK},
		{even(), all(), nil, api.ErrApart},
		{machine(1, ""), machine(1, ""), nil, api.OK},
		{machine(1, "[1], [-1]"), machine(1, ""), pairs(0, -1, 1, -1), api.OK},
		{machine(1, ""), machine(1, "[1], [0]"), pairs(-1, 0, -1, 1), api.OK},
		{machine(1, ""), all(), nil, api.ErrApart},
		{machine(0, "*[]"), machine(0, "[], *[]"), nil, api.ErrApart},
		{machine(0, "*[]"), machine(0, "*[], []"), pairs(0, 0), api.OK},
		{machine(2, "*[0 1], [1 1]"), machine(2, "*[0 -1]"), pairs(0, 0, 1, -1), api.OK},
		{machine(2, "*[0 -1]"), machine(2, "*[0 1], [1 1]"), pairs(-1, 1, 0, 0), api.OK},
	} {
		got, err := Relate(x.a, x.b)
		if !sameSlices(got, x.want) || err != x.err {
			t.Errorf("Relate of %s and %s: %v, %d", text(x.a), text(x.b), got, err)
		}
	}
}

func TestRelateIsTheLeastRelation(t *testing.T) {
	r := rand.New(rand.NewSource(6))
	for round := range 3000 {
		a := anyMachine(r, r.Intn(4), 6)
		b := shuffled(r, a)
		if round%2 == 0 {
			b = nudged(r, b)
		}
		got, err := Relate(a, b)
		if !plainSame(a, b) {
			if got != nil || err != api.ErrApart {
				t.Fatalf("Relate of %s and %s: %v, %d", text(a), text(b), got, err)
			}
			continue
		}
		if err != api.OK || !sameSlices(got, plainRelation(a, b)) {
			t.Fatalf("Relate of %s and %s: %v, %d", text(a), text(b), got, err)
		}
		if err := Check(a, b, got); err != api.OK {
			t.Fatalf("Check of %s, %s and %v: %d", text(a), text(b), got, err)
		}
		for i := range got {
			if err := Check(a, b, slices.Delete(slices.Clone(got), i, i+1)); err != api.ErrApart {
				t.Fatalf("Check of %s, %s and %v without %v: %d", text(a), text(b), got, got[i], err)
			}
		}
	}
}

func TestRelateIsLimited(t *testing.T) {
	full, err := Relate(cycle(1, 113, always), cycle(1, 177, always))
	if full != nil || err != api.ErrFull {
		t.Errorf("Relate of %d pairs: %d, %d", 113*177, len(full), err)
	}
	most, err := Relate(cycle(1, 32, always), cycle(1, 625, always))
	if len(most) != api.MaxInner || err != api.OK {
		t.Errorf("Relate of %d pairs: %d, %d", 32*625, len(most), err)
	}
	if err := Check(cycle(1, 32, always), cycle(1, 625, always), most); err != api.OK {
		t.Errorf("Check of %d pairs: %d", len(most), err)
	}
	other := cycle(1, 177, always)
	other.End[176] = false
	if got, err := Relate(cycle(1, 113, always), other); got != nil || err != api.ErrApart {
		t.Errorf("Relate of many pairs, apart: %v, %d", got, err)
	}
}

// Check has no limit: a relation may be greater than Relate returns it.
func TestCheckIsNotLimited(t *testing.T) {
	a, b := cycle(1, 113, always), cycle(1, 177, always)
	many := plainRelation(a, b)
	if err := Check(a, b, many); len(many) != 20001 || err != api.OK {
		t.Errorf("Check of %d pairs: %d", len(many), err)
	}
	if err := Check(a, b, many[1:]); err != api.ErrApart {
		t.Errorf("Check of %d pairs: %d", len(many)-1, err)
	}
}

func TestCheck(t *testing.T) {
	long := machine(1, "*[1], [2], *[1]")
	dead := machine(1, "[1], [-1]")
	none := machine(1, "")
	for _, x := range []struct {
		a, b  api.Machine
		pairs []api.Pair
		want  api.Errno
	}{
		{long, even(), pairs(0, 0, 1, 1, 2, 0), api.OK},
		{long, even(), pairs(0, 0, 1, 1), api.ErrApart},
		{long, even(), pairs(0, 0, 2, 0), api.ErrApart},
		{long, even(), pairs(1, 1, 2, 0), api.ErrApart},
		{long, even(), nil, api.ErrApart},
		{long, even(), pairs(2, 0, 0, 0, 1, 1), api.ErrForm},
		{long, even(), pairs(-1, -1, 0, 0, 1, 1, 2, 0), api.ErrForm},
		{long, even(), pairs(0, 0, 1, 1, 2, 0, -1, -1), api.ErrForm},
		{long, even(), pairs(-1, -1), api.ErrForm},
		{long, even(), pairs(0, 0, 0, 0, 1, 1, 2, 0), api.ErrForm},
		{long, even(), pairs(0, 0, 1, 1, 2, 0, 2, 0), api.ErrForm},
		{long, even(), pairs(0, 0, 1, 1, 2, 0, 3, 0), api.ErrForm},
		{long, even(), pairs(0, 0, 1, 1, 2, 0, 2, 2), api.ErrForm},
		{long, even(), pairs(-2, 0, 0, 0, 1, 1, 2, 0), api.ErrForm},
		{long, even(), pairs(0, -2, 0, 0, 1, 1, 2, 0), api.ErrForm},
		{long, even(), pairs(0, 0, 1, 1, 2, 1), api.ErrApart},
		{long, even(), pairs(0, 0, 1, 1, 2, 0, 2, 1), api.ErrApart},
		{even(), long, pairs(0, 0, 0, 2, 1, 1), api.OK},
		{even(), long, pairs(0, 2, 0, 0, 1, 1), api.ErrForm},
		{even(), all(), pairs(0, 0, 1, 0), api.ErrApart},
		{even(), all(), pairs(1, 0, 0, 0), api.ErrForm},
		{none, none, nil, api.OK},
		{none, none, pairs(-1, -1), api.ErrForm},
		{none, none, pairs(0, 0), api.ErrForm},
		{dead, none, pairs(0, -1, 1, -1), api.OK},
		{dead, none, pairs(0, -1), api.ErrApart},
		{dead, none, nil, api.ErrApart},
		{none, dead, pairs(-1, 0, -1, 1), api.OK},
		// More pairs than the least relation has, which show it, too.
		{dead, dead, pairs(-1, 0, -1, 1, 0, 0, 0, 1, 1, -1, 1, 0, 1, 1), api.OK},
		{dead, dead, pairs(0, 0, 1, 1), api.OK},
		{all(), all(), pairs(-1, 0, 0, 0), api.ErrApart},
		{all(), all(), pairs(0, -1, 0, 0), api.ErrApart},
	} {
		if got := Check(x.a, x.b, x.pairs); got != x.want {
			t.Errorf("Check of %s, %s and %v: %d; want %d", text(x.a), text(x.b), x.pairs, got, x.want)
		}
	}
}

func TestCheckOfAnyPairs(t *testing.T) {
	r := rand.New(rand.NewSource(7))
	seen := map[api.Errno]int{}
	for range 20000 {
		a := anyMachine(r, r.Intn(3), 4)
		b := nudged(r, shuffled(r, a))
		list := anyPairs(r, a, b)
		want := plainCheck(a, b, list)
		seen[want]++
		got := Check(a, b, list)
		if got != want {
			t.Fatalf("Check of %s, %s and %v: %d; want %d", text(a), text(b), list, got, want)
		}
		if got == api.OK && !plainSame(a, b) {
			t.Fatalf("Check of %s, %s and %v, which are apart", text(a), text(b), list)
		}
	}
	for _, err := range []api.Errno{api.OK, api.ErrForm, api.ErrApart} {
		if seen[err] < 1000 {
			t.Errorf("only %d lists with the result %d", seen[err], err)
		}
	}
}

// anyPairs is a relation of two machines, perhaps with more or fewer pairs, or in another order.
func anyPairs(r *rand.Rand, a, b api.Machine) []api.Pair {
	list := plainRelation(a, b)
	for range r.Intn(3) {
		list = append(list, api.Pair{A: r.Intn(len(a.Next)+1) - 1, B: r.Intn(len(b.Next)+1) - 1})
	}
	if len(list) > 0 && r.Intn(3) == 0 {
		i := r.Intn(len(list))
		list = slices.Delete(list, i, i+1)
	}
	if r.Intn(8) > 0 {
		slices.SortFunc(list, inOrder)
		list = slices.Compact(list)
	}
	if len(list) > 0 && list[0] == (api.Pair{A: -1, B: -1}) && r.Intn(8) > 0 {
		list = list[1:]
	}
	return list
}
