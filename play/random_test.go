package play

import (
	"testing"

	"doppelganger/api"
	"doppelganger/lang"
)

// programs makes random programs and hands them on, and tells how many of their seeds made none, as it was too large.
func programs(t *testing.T, seeds int, use func(p *lang.Piece)) {
	t.Helper()
	large := 0
	for seed := range seeds {
		m := newMaker(seed)
		typ := api.Type(m.Intn(2))
		text := "|- " + typeWord(typ) + " : " + m.term(typ, 3+m.Intn(6))
		p, err := lang.Read(text)
		switch {
		case err == api.OK:
			use(p)
		case err == api.ErrFull || len(text) > api.MaxText:
			large++
		default:
			t.Fatalf("seed %d makes no program: %q", seed, text)
		}
	}
	if large > seeds/4 {
		t.Errorf("%d of %d programs are too large", large, seeds)
	}
}

// P2.1 to P2.5, P3, P4: random programs come to the same in another way, and once more.
func TestRandomPrograms(t *testing.T) {
	ends := map[api.Result]int{}
	programs(t, 6000, func(p *lang.Piece) {
		text := p.Text()
		got := outcomeOf(p)
		if want := referenceRun(p.Nodes(), api.MaxSteps, false); got != want {
			t.Fatalf("%q: %v; want %v", text, got, want)
		}
		if outcomeOf(p) != got || p.Text() != text {
			t.Fatalf("%q: it is another one when it is run again", text)
		}
		ends[got.result]++
	})
	if ends[api.Never] < 500 || ends[api.Done] < 500 || ends[api.Faulted] < 500 {
		t.Errorf("the programs say little: %v", ends)
	}
}

// P2.10: what Never is told of does not end, as far as it is run.
func TestNeverIsTrue(t *testing.T) {
	loops := 0
	programs(t, 1000, func(p *lang.Piece) {
		if outcomeOf(p) != never {
			return
		}
		switch end := referenceRun(p.Nodes(), 2*api.MaxSteps, true); end {
		case full:
			loops++
		case never:
		default:
			t.Fatalf("%q: it ends: %v", p.Text(), end)
		}
	})
	if loops < 60 {
		t.Errorf("only %d of the programs loop", loops)
	}
}
