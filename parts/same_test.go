package parts

import (
	"testing"

	"doppelganger/api"
	"doppelganger/tell"
)

// P7.4: two modules are the same if no client tells them apart.
func TestSame(t *testing.T) {
	for _, c := range []struct {
		a, b string
		want bool
	}{
		{up, up, true},
		{up, down, true},
		{up, square, false},
		{down, square, false},
		{"a: com { skip }", "b: com { skip; skip }", true}, // the names of operations do not matter
		{"a: com { skip }; b: exp [ 1 ]", "b: com { skip }; a: exp [ 1 ]", true},
		{"a: exp [ 1 ]; b: exp [ 2 ]", "b: exp [ 2 ]; a: exp [ 1 ]", false}, // their order does
		{"a: com { stop }", "a: com { skip }", false},
		{"a: com { stop }", "a: com { fault }", false},
		{"a: com { stop }", "a: com { while 1 { skip } }", true},
		{"a: exp [ fault ]", "new x = 0; a: exp [ do { x := x + 1; fault } [ x ] ]", true},
		{"new x = 1; a: exp [ x ]", "a: exp [ 1 ]", true},
		{"new x = 1; a: exp [ x ]", "new x = 2; a: exp [ x ]", false},
		{"new x = 1; a: com { skip }", "new x = 2; new y = 1; a: com { y := x }", true}, // what no answer tells
		// The first values, and those that come in no other state.
		{"new x = 0; set: com { x := 2 }; get: exp [ if x == 1 [ fault ] [ x ] ]", "new x = 0; set: com { x := 2 }; get: exp [ x ]", true},
		{"new x = 0; set: com { x := 1 }; get: exp [ if x == 1 [ fault ] [ x ] ]", "new x = 0; set: com { x := 1 }; get: exp [ x ]", false},
		{"new x = 0; go: com { if x { fault } { x := 1 } }", "new x = 3; go: com { x := x - 1; if x == 1 { fault } { skip } }", true},
		// An answer may have an effect, too.
		{"new x = 0; a: exp [ do { x := x + 1 } [ x ] ]", "new x = 1; a: exp [ new y = x [ do { x := y + 1 } [ y ] ] ]", true},
		{"new x = 0; a: exp [ do { x := x + 1 } [ x ] ]", "new x = 0; a: exp [ x + 1 ]", false},
		// Two bits for a number.
		{"new n = 0; inc: com { n := n + 1 }; get: exp [ n ]", "new l = 0; new h = 0; inc: com { if l { h := h == 0; l := 0 } { l := 1 } }; get: exp [ h + h + l ]", true},
		{"new n = 0; inc: com { n := n + 1 }; get: exp [ n ]", "new l = 0; new h = 0; inc: com { if l { h := 1; l := 0 } { l := 1 } }; get: exp [ h + h + l ]", false},
	} {
		wantSame(t, mustRead(t, c.a), mustRead(t, c.b), c.want, api.OK)
	}
}

// P7.4: the types of the operations, in order.
func TestOtherTypes(t *testing.T) {
	texts := []string{"a: com { skip }", "a: exp [ 1 ]", "a: com { skip }; b: com { skip }", "a: com { skip }; b: exp [ 1 ]", "a: exp [ 1 ]; b: com { skip }", "a: com { skip }; b: com { skip }; c: com { skip }"}
	for i, a := range texts {
		for j, b := range texts {
			if i != j {
				wantSame(t, mustRead(t, a), mustRead(t, b), false, api.ErrType)
				wantRelation(t, mustRead(t, a), mustRead(t, b), api.ErrType)
			} else {
				wantSame(t, mustRead(t, a), mustRead(t, b), true, api.OK)
			}
		}
	}
}

// P7.4: the errors of tell.Same, behind ErrType.
func TestSameLimits(t *testing.T) {
	long := mustRead(t, "op: com { "+loops("abcdefgh", "skip")+" }")
	if _, err := tell.Same(mustPiece(t, long), mustPiece(t, long)); err != api.ErrFull {
		t.Fatalf("the operation is not long enough: %d", err)
	}
	wantSame(t, long, mustRead(t, "op: com { skip }"), false, api.ErrFull)
	wantSame(t, long, long, false, api.ErrFull)
	wantSame(t, long, mustRead(t, "op: exp [ 1 ]"), false, api.ErrType)
	wantRelation(t, long, mustRead(t, "op: com { skip }"), api.ErrFull)
	wantRelation(t, long, long, api.ErrFull)
	wantRelation(t, long, mustRead(t, "op: exp [ 1 ]"), api.ErrType)
}
