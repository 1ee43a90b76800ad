package tell

import (
	"math/rand"
	"slices"
	"testing"

	"doppelganger/api"
	"doppelganger/auto"
	"doppelganger/lang"
	"doppelganger/moves"
)

// machines returns the machines of two pieces.
func machines(t *testing.T, p, q *lang.Piece) (a, b api.Machine) {
	t.Helper()
	a, err := moves.Plays(p)
	b, errToo := moves.Plays(q)
	if err != api.OK || errToo != api.OK {
		t.Fatalf("Plays of %q and %q: %d, %d", p.Text(), q.Text(), err, errToo)
	}
	return a, b
}

// P5.6: the certificate of pieces that are the same.
func TestCertify(t *testing.T) {
	for _, c := range []struct {
		p, q string
		want []api.Pair
	}{
		{"p : com |- com : skip; p", "p : com |- com : p", []api.Pair{{A: 0, B: 0}, {A: 1, B: 1}, {A: 2, B: 2}, {A: 3, B: 3}, {A: 4, B: 4}}},
		{"|- com : fault", "|- com : fault; skip", []api.Pair{{A: 0, B: 0}, {A: 1, B: 1}, {A: 2, B: 2}}},
		{"|- com : stop", "|- com : while 1 { skip }", nil},
	} {
		p, q := mustRead(t, c.p), mustRead(t, c.q)
		pairs, err := Certify(p, q)
		want, _ := auto.Relate(machines(t, p, q))
		// In the least machine of the one, the pair of nowhere stands for what leads nowhere, and is not listed.
		if err != api.OK || !slices.Equal(pairs, want) || len(pairs) != len(c.want) || !slices.Equal(pairs, c.want) {
			t.Errorf("Certify of %q and %q: %v, %d; want %v", c.p, c.q, pairs, err, c.want)
		}
		if err := Check(p, q, pairs); err != api.OK {
			t.Errorf("Check of %q and %q: %d", c.p, c.q, err)
		}
	}
}

// P5.6: what is no certificate.
func TestCheck(t *testing.T) {
	p, q := mustRead(t, "p : com |- com : skip; p"), mustRead(t, "p : com |- com : p")
	all := []api.Pair{{A: 0, B: 0}, {A: 1, B: 1}, {A: 2, B: 2}, {A: 3, B: 3}, {A: 4, B: 4}}
	for i := range all {
		if err := Check(p, q, slices.Delete(slices.Clone(all), i, i+1)); err != api.ErrApart {
			t.Errorf("Check without %v: %d", all[i], err)
		}
		wrong := slices.Clone(all)
		wrong[i].B = 5
		if err := Check(p, q, wrong); err != api.ErrForm {
			t.Errorf("Check with %v: %d", wrong[i], err)
		}
	}
	for _, pairs := range [][]api.Pair{
		{{A: -1, B: -1}}, slices.Concat([]api.Pair{{A: -1, B: -1}}, all), slices.Concat(all, all), slices.Concat(all, []api.Pair{{A: 5, B: 0}}), {{A: 0, B: -2}}, {{A: 1, B: 1}, {A: 0, B: 0}},
	} {
		if err := Check(p, q, pairs); err != api.ErrForm {
			t.Errorf("Check with %v: %d", pairs, err)
		}
	}
	if err := Check(p, q, nil); err != api.ErrApart {
		t.Errorf("Check with nothing: %d", err)
	}
	if err := Check(mustRead(t, "|- com : stop"), mustRead(t, "|- com : stop; skip"), nil); err != api.OK {
		t.Errorf("Check with nothing of pieces without plays: %d", err)
	}
	r := mustRead(t, "p : com |- com : p; p")
	for _, c := range []struct {
		pairs []api.Pair
		want  api.Errno
	}{{all, api.ErrApart}, {nil, api.ErrApart}, {[]api.Pair{{A: 0, B: 0}}, api.ErrApart}, {[]api.Pair{{A: 1, B: 0}, {A: 0, B: 0}}, api.ErrForm}} {
		if err := Check(p, r, c.pairs); err != c.want {
			t.Errorf("Check of pieces that are apart with %v: %d; want %d", c.pairs, err, c.want)
		}
	}
}

// P5.10 (T6): pieces that are the same have a certificate, and others have none.
func TestRandomCertificates(t *testing.T) {
	same, apart := 0, 0
	random := rand.New(rand.NewSource(1))
	pairs(t, 300, declarations, func(p, q *lang.Piece) {
		a, b := machines(t, p, q)
		list, err := Certify(p, q)
		if is, _ := Same(p, q); is {
			same++
			want, wantErr := auto.Relate(a, b)
			if err != api.OK || wantErr != api.OK || !slices.Equal(list, want) || Check(p, q, list) != api.OK {
				t.Errorf("Certify of %q and %q: %v, %d; want %v", p.Text(), q.Text(), list, err, want)
			}
			return
		}
		apart++
		if err != api.ErrApart || len(list) > 0 {
			t.Errorf("Certify of %q and %q: %v, %d", p.Text(), q.Text(), list, err)
		}
		for _, list := range [][]api.Pair{nil, allPairs(a, b, func() bool { return true }), allPairs(a, b, func() bool { return random.Intn(2) == 0 })} {
			if err := Check(p, q, list); err != api.ErrApart {
				t.Errorf("Check of %q and %q with %d pairs: %d", p.Text(), q.Text(), len(list), err)
			}
		}
	})
	if same < 200 || apart < 200 {
		t.Errorf("only %d pairs are the same, and %d apart", same, apart)
	}
}

// allPairs returns those pairs of states that are wanted.
func allPairs(a, b api.Machine, wanted func() bool) []api.Pair {
	var list []api.Pair
	for i := -1; i < min(len(a.Next), 50); i++ {
		for j := -1; j < min(len(b.Next), 50); j++ {
			if (i >= 0 || j >= 0) && wanted() {
				list = append(list, api.Pair{A: i, B: j})
			}
		}
	}
	return list
}
