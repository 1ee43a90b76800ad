package play

import (
	"reflect"
	"sync"
	"testing"

	"doppelganger/api"
	"doppelganger/lang"
)

// P2.5, P1, P2: what is no program is ErrArg, with nothing else.
func TestNoProgram(t *testing.T) {
	want := outcome{err: api.ErrArg}
	if got := outcomeOf(nil); got != want {
		t.Errorf("nil: %v", got)
	}
	if got := outcomeOf(&lang.Piece{}); got != want {
		t.Errorf("the zero value: %v", got)
	}
	for _, text := range []string{
		"p : com |- com : p",
		"p : com |- com : skip",
		"p : com |- com : fault",
		"x : exp |- exp : 1",
		"x : exp |- exp : x",
		"f(com, exp, val) : exp |- com : while 1 { skip }",
		"hole : com |- com : hole",
		"a : com, b : com, c : com, d : com |- com : proc a() : com { skip } { a }",
	} {
		if got := outcomeOf(mustRead(t, text)); got != want {
			t.Errorf("%q: %v", text, got)
		}
	}
}

// P2.1: a program may come of a text, of nodes, or of a context that is filled.
func TestPrograms(t *testing.T) {
	built, err := lang.Build(nil, api.Exp, []api.Node{{Kind: api.Add, Type: api.Exp, Kids: []int{1, 2}}, {Kind: api.Num, Type: api.Exp, Value: 3}, {Kind: api.Num, Type: api.Exp, Value: 2}})
	if got := outcomeOf(built); err != api.OK || got != done(1, 3) {
		t.Errorf("3 + 2: %v", got)
	}
	filled, err := lang.Fill(mustRead(t, "hole : com |- com : proc p() : com { fault } { hole; hole }"), mustRead(t, "p : com |- com : skip; p"))
	if got := outcomeOf(filled); err != api.OK || got != faulted(7) {
		t.Errorf("a filled context: %v", got)
	}
}

// P3, P4: a run neither changes the piece nor depends on other runs, also at the same time.
func TestRunsAtTheSameTime(t *testing.T) {
	p := mustRead(t, "|- exp : new n = 0 [ do { block k { while 1 { n := n + 1; if n == 2 { exit k } { skip } } } } [ n ] ]")
	before := p.Nodes()
	var all sync.WaitGroup
	for range 8 {
		all.Go(func() {
			for range 100 {
				if got := outcomeOf(p); got != done(2, 28) {
					t.Errorf("another result: %v", got)
				}
			}
		})
	}
	all.Wait()
	if !reflect.DeepEqual(p.Nodes(), before) {
		t.Error("the piece is another one")
	}
}
