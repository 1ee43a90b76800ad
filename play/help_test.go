package play

import (
	"testing"

	"doppelganger/api"
	"doppelganger/lang"
)

// outcome is all that Run returns.
type outcome struct {
	result       api.Result
	value, steps int
	err          api.Errno
}

func done(value, steps int) outcome {
	return outcome{result: api.Done, value: value, steps: steps}
}

func faulted(steps int) outcome {
	return outcome{result: api.Faulted, steps: steps}
}

var (
	never = outcome{result: api.Never}
	full  = outcome{err: api.ErrFull}
)

func mustRead(t *testing.T, text string) *lang.Piece {
	t.Helper()
	p, err := lang.Read(text)
	if err != api.OK {
		t.Fatalf("Read(%q): %d", text, err)
	}
	return p
}

func outcomeOf(p *lang.Piece) outcome {
	result, value, steps, err := Run(p)
	return outcome{result, value, steps, err}
}

// outcomes checks what comes of programs, which are written without "|- ".
func outcomes(t *testing.T, programs map[string]outcome) {
	t.Helper()
	for text, want := range programs {
		if got := outcomeOf(mustRead(t, "|- "+text)); got != want {
			t.Errorf("%q: %v; want %v", text, got, want)
		}
	}
}

// sameEnd reports whether two runs come to the same. Steps do not count.
func sameEnd(a, b outcome) bool {
	return a.result == b.result && a.value == b.value
}
