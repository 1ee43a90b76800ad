package rules

import (
	"testing"

	"doppelganger/api"
)

// matching is a rule, and to what some of its applications come: "" where it does not fit.
type matching struct {
	rule  string
	cases []applied
}

type applied struct {
	piece string
	node  int
	back  bool
	want  string
}

func wantMatchings(t *testing.T, list []matching) {
	t.Helper()
	for _, m := range list {
		b := bookOf(t, m.rule)
		for _, x := range m.cases {
			err := api.OK
			if x.want == "" {
				err = api.ErrApart
			}
			p := mustRead(t, x.piece)
			wantApply(t, b, 0, x.back, p, x.node, x.want, err)
			if got, err := b.Apply(0, x.back, p, x.node); err == api.OK {
				wantSame(t, p, got)
			}
		}
	}
}

// P6.3: an unknown stands for one term of its type, in all places.
func TestOneTerm(t *testing.T) {
	wantMatchings(t, []matching{
		{"com : if x { p } { p } ~ new a = x { p }", []applied{
			{"q : com |- com : if 1 { q; q } { q; q }", 0, false, "q : com |- com : new a = 1 { q; q }"},
			{"q : com |- com : if 1 { q; q } { q }", 0, false, ""},
			{"q : com |- com : if 1 { q; q } { q; q; q }", 0, false, ""},
			{"|- com : if 1 { fault } { stop }", 0, false, ""},
			{"|- exp : if 1 [ 2 ] [ 2 ]", 0, false, ""},
			{"|- com : if 1 { new a = 2 { skip } } { new a = 3 { skip } }", 0, false, ""},
			{"|- com : if 1 { new a = 2 { skip } } { new b = 2 { skip } }", 0, false, ""},
			{"|- com : if 1 { proc f(a : com) : com { skip } { skip } } { proc f(b : com) : com { skip } { skip } }", 0, false, ""},
			{"|- com : if 1 { proc f(a : com) : com { skip } { skip } } { proc f(a : val) : com { skip } { skip } }", 0, false, ""},
			{"|- com : if 1 { proc f(a : com) : com { skip } { skip } } { proc f() : com { skip } { skip } }", 0, false, ""},
			{"|- com : if 1 { proc f() : exp [ stop ] { skip } } { proc f() : com { stop } { skip } }", 0, false, ""},
			{"f(exp, exp) : com |- com : if 1 { f(1, 2 + 3) } { f(1 + 2, 3) }", 0, false, ""},
			{"f(exp, exp) : com |- com : if 1 { f(1, 2 + 3) } { f(1, 2 + 3) }", 0, false, "f(exp, exp) : com |- com : new a = 1 { f(1, 2 + 3) }"},
			{"|- com : block k { new b = 1 { if b { b := 2; exit k } { b := 2; exit k } } }", 3, false, "|- com : block k { new b = 1 { new a = b { b := 2; exit k } } }"},
			{"|- com : new c = 3 { skip; skip }", 0, true, ""},
			{"|- com : new a = 3 { skip; skip }", 0, true, "|- com : if 3 { skip; skip } { skip; skip }"},
		}},
		{"exp : x + x ~ x + x", []applied{
			{"f(com) : exp |- exp : f({ skip; stop }) + f({ skip; stop })", 0, false, "f(com) : exp |- exp : f({ skip; stop }) + f({ skip; stop })"},
			{"f(com) : exp |- exp : f({ skip; stop }) + f({ stop; skip })", 0, false, ""},
			{"|- exp : 1 + 1 + (1 + 1)", 0, false, "|- exp : 1 + 1 + (1 + 1)"},
			{"|- exp : 1 + 1 + 1 + 1", 0, false, ""},
			{"|- exp : 1 - 1", 0, false, ""},
			{"|- exp : stop + fault", 0, false, ""},
			{"|- exp : do { skip } [ 1 ] + do { skip } [ 1 ]", 0, true, "|- exp : do { skip } [ 1 ] + do { skip } [ 1 ]"},
		}},
		{"com : skip; p ~ p", []applied{
			{"|- exp : 1", 0, true, ""},
			{"|- exp : do { stop } [ fault ]", 0, true, ""},
			{"|- exp : do { stop } [ fault ]", 1, true, "|- exp : do { skip; stop } [ fault ]"},
			{"|- exp : do { stop } [ fault ]", 2, true, ""},
			{"|- com : skip", 0, false, ""},
			{"|- com : skip", 0, true, "|- com : skip; skip"},
		}},
		{"exp : x ~ x * 1", []applied{
			{"|- com : new a = 2 { a := a }", 0, false, ""},
			{"|- com : new a = 2 { a := a }", 1, false, "|- com : new a = 2 * 1 { a := a }"},
			{"|- com : new a = 2 { a := a }", 3, false, "|- com : new a = 2 { a := a * 1 }"},
			{"|- com : if stop { stop } { stop }", 1, false, "|- com : if stop * 1 { stop } { stop }"},
			{"|- com : if stop { stop } { stop }", 2, false, ""},
			{"|- exp : 1 < 2 * 1", 2, true, "|- exp : 1 < 2"},
			{"|- exp : (1 < 2) * 1 * 1", 0, true, "|- exp : (1 < 2) * 1"},
		}},
	})
}

// P6.3: rows are put together from the left.
func TestRows(t *testing.T) {
	wantMatchings(t, []matching{
		{"com : p; q ~ p; skip; q", []applied{
			{"a : com, b : com, c : com |- com : a; b; c", 0, false, "a : com, b : com, c : com |- com : a; b; skip; c"},
			{"a : com, b : com, c : com |- com : a; b; c", 1, false, "a : com, b : com, c : com |- com : a; skip; b; c"},
			{"a : com, b : com, c : com |- com : a; b; c", 2, false, ""},
			{"a : com, b : com, c : com |- com : a; b; c", 4, false, ""},
			{"a : com, b : com |- com : a; skip; b", 0, true, "a : com, b : com |- com : a; b"},
			{"a : com, b : com |- com : a; skip; skip; b", 0, true, "a : com, b : com |- com : a; skip; b"},
			{"a : com, b : com |- com : skip; b; a", 0, true, ""},
		}},
		{"com : p; p; stop ~ p; p; stop", []applied{
			{"a : com, b : com |- com : a; a; stop", 0, false, "a : com, b : com |- com : a; a; stop"},
			{"a : com, b : com |- com : a; b; a; b; stop", 0, false, ""},
			{"a : com, b : com |- com : b; a; a; stop", 0, false, ""},
		}},
		{"com : if 1 { p } { q } ~ p", []applied{
			{"a : com |- com : a; if 1 { a; stop } { skip }", 2, false, "a : com |- com : a; a; stop"},
			{"a : com |- com : a; if 1 { a; stop } { skip }; a; a", 0, false, ""},
			{"a : com |- com : a; if 1 { a; stop } { skip }; a; a", 5, false, ""},
			{"a : com |- com : a; if 1 { a; stop; a } { skip }; a; a", 4, false, "a : com |- com : a; a; stop; a; a; a"},
			{"a : com |- com : a; if 1 { a; stop; a } { skip }; a; a", 0, true, ""},
		}},
	})
}

// P6.3: no name that is free in the term of an unknown is bound around a call of this unknown.
func TestBoundNames(t *testing.T) {
	wantMatchings(t, []matching{
		{"com : p ~ new a = 0 { p }", []applied{
			{"|- com : new a = 1 { a := 2 }", 2, false, ""},
			{"|- com : new a = 1 { if a { skip } { skip } }", 2, false, ""},
			{"a : com |- com : a", 0, false, ""},
			{"a(val) : com |- com : a(1)", 0, false, ""},
			{"|- com : proc a() : com { skip } { a }", 2, false, ""},
			{"|- com : proc f(a : com) : com { a } { f({ skip }) }", 1, false, ""},
			{"|- com : block a { exit a }", 1, false, ""},
			{"|- com : block a { if exit a { skip } { skip } }", 1, false, ""},
			{"|- com : block a { exit a }", 0, false, "|- com : new a = 0 { block a { exit a } }"},
			{"|- com : new a = 1 { a := 2 }", 0, false, "|- com : new a = 0 { new a = 1 { a := 2 } }"},
			{"|- com : new a = 1 { new a = a { skip } }", 2, false, ""},
			{"|- com : new a = 1 { new a = 2 { a := a } }", 2, false, "|- com : new a = 1 { new a = 0 { new a = 2 { a := a } } }"},
			{"|- com : proc a() : com { skip } { proc a() : com { a } { a } }", 2, false, ""},
			{"|- com : proc a() : com { skip } { proc a() : com { skip } { a } }", 2, false, "|- com : proc a() : com { skip } { new a = 0 { proc a() : com { skip } { a } } }"},
			{"|- com : proc a() : com { skip } { proc f(a : com) : com { a } { skip } }", 2, false, "|- com : proc a() : com { skip } { new a = 0 { proc f(a : com) : com { a } { skip } } }"},
			{"|- com : proc a() : com { skip } { proc f(a : com) : com { a } { a } }", 2, false, ""},
			{"|- com : new a = 0 { new b = 0 { b := 1 } }", 0, true, "|- com : new b = 0 { b := 1 }"},
			{"|- com : new a = 0 { new a = a { skip } }", 0, true, ""},
			{"|- com : new b = 0 { new a = 0 { b := 1 } }", 2, true, "|- com : new b = 0 { b := 1 }"},
		}},
		// In its expression a New binds nothing.
		{"com : if x { p } { q } ~ new x = x { if x { p } { q } }", []applied{
			{"|- com : new x = 1 { if x { skip } { stop } }", 2, false, "|- com : new x = 1 { new x = x { if x { skip } { stop } } }"},
			{"|- com : new x = 1 { if 0 { x := 1 } { stop } }", 2, false, ""},
			{"|- com : new x = 1 { if 0 { skip } { x := 1 } }", 2, false, ""},
			{"|- com : new y = 1 { if 0 { y := 1 } { y := 2 } }", 2, false, "|- com : new y = 1 { new x = 0 { if x { y := 1 } { y := 2 } } }"},
			{"|- com : new x = 1 { new x = x { if x { skip } { stop } } }", 2, true, "|- com : new x = 1 { if x { skip } { stop } }"},
		}},
		// A procedure's name is bound in its block, its parameters are in its body.
		{"com : p; q ~ proc f(b : val, c : com) : com { c; p } { f(0, { skip }); q }", []applied{
			{"|- com : new b = 0 { b := 1; skip }", 2, false, ""},
			{"|- com : new b = 0 { skip; b := 1 }", 2, false, "|- com : new b = 0 { proc f(b : val, c : com) : com { c; skip } { f(0, { skip }); b := 1 } }"},
			{"c : com |- com : c; skip", 0, false, ""},
			{"c : com |- com : skip; c", 0, false, "c : com |- com : proc f(b : val, c : com) : com { c; skip } { f(0, { skip }); c }"},
			{"f : com |- com : f; skip", 0, false, "f : com |- com : proc f(b : val, c : com) : com { c; f } { f(0, { skip }); skip }"},
			{"f : com |- com : skip; f", 0, false, ""},
			{"|- com : block f { exit f; skip }", 1, false, "|- com : block f { proc f(b : val, c : com) : com { c; exit f } { f(0, { skip }); skip } }"},
			{"|- com : block f { skip; exit f }", 1, false, ""},
			{"|- com : proc f(b : val, c : com) : com { c; stop } { f(0, { skip }); fault }", 0, true, "|- com : stop; fault"},
			{"|- com : proc f(b : val, c : com) : com { c; b := 1 } { f(0, { skip }); fault }", 0, true, ""},
			{"|- com : proc f(b : val, c : com) : com { c; c } { f(0, { skip }); fault }", 0, true, ""},
			{"|- com : proc f(b : val, c : com) : com { c; stop } { f(0, { skip }); f(1, { stop }) }", 0, true, ""},
			{"|- com : proc f(c : com, b : val) : com { c; stop } { f({ skip }, 0); fault }", 0, true, ""},
			{"|- com : proc f(b : val, d : com) : com { d; stop } { f(0, { skip }); fault }", 0, true, ""},
		}},
		// A label binds its name, whatever the name is of.
		{"com : block k { p; exit k; q } ~ p", []applied{
			{"|- com : block k { stop; exit k; skip }", 0, false, "|- com : stop"},
			{"|- com : block k { exit k; exit k; skip }", 0, false, ""},
			{"|- com : block k { stop; exit k; exit k }", 0, false, ""},
			{"|- com : block j { block k { exit j; exit k; exit j } }", 1, false, "|- com : block j { exit j }"},
			{"|- com : block k { block j { stop; exit j; skip } }", 1, false, ""},
			{"|- com : block k { block k { exit k }; exit k; skip }", 0, false, "|- com : block k { exit k }"},
			{"k : com |- com : k", 0, true, ""},
		}},
		// It is enough that the name is bound around one call, in either side.
		{"com : p; p ~ p; block k { p }", []applied{
			{"|- com : block k { exit k; exit k }", 1, false, ""},
			{"|- com : block k { exit k; block k { exit k } }", 1, true, ""},
			{"|- com : block j { exit j; exit j }", 1, false, "|- com : block j { exit j; block k { exit j } }"},
		}},
	})
}

// P6.3: what is not the term of an unknown is the same, node by node, names as they are.
func TestTheRest(t *testing.T) {
	wantMatchings(t, []matching{
		{"com : new a = 0 { a := 2; p } ~ p", []applied{
			{"|- com : new a = 0 { a := 2; stop }", 0, false, "|- com : stop"},
			{"|- com : new a = 0 { a := 2; skip; stop }", 0, false, ""},
			{"|- com : new b = 0 { b := 2; stop }", 0, false, ""},
			{"|- com : new a = 1 { a := 2; stop }", 0, false, ""},
			{"|- com : new a = 0 { a := 3; stop }", 0, false, ""},
			{"|- com : new b = 0 { new a = 0 { b := 2; stop } }", 2, false, ""},
			{"|- com : new a = 0 { stop; a := 2 }", 0, false, ""},
			{"|- exp : new a = 0 [ do { a := 2; stop } [ 1 ] ]", 0, false, ""},
		}},
		{"com : block k { if x { exit k } { p } } ~ if x { skip } { p }", []applied{
			{"|- com : block k { if 1 { exit k } { stop } }", 0, false, "|- com : if 1 { skip } { stop }"},
			{"|- com : block j { if 1 { exit j } { stop } }", 0, false, ""},
			{"|- com : block j { block k { if 1 { exit j } { stop } } }", 1, false, ""},
			{"|- com : block k { if 1 { skip } { stop } }", 0, false, ""},
			{"|- com : block k { if 1 { exit k } { exit k } }", 0, false, ""},
		}},
		{"exp : proc f(a : val, b : exp) : exp [ a - b ] [ f(x, 1) ] ~ x - 1", []applied{
			{"|- exp : proc f(a : val, b : exp) : exp [ a - b ] [ f(2 + 1, 1) ]", 0, false, "|- exp : 2 + 1 - 1"},
			{"|- exp : proc f(a : val, b : exp) : exp [ a - b ] [ f(1, 2 + 1) ]", 0, false, ""},
			{"|- exp : proc f(a : val, b : exp) : exp [ a + b ] [ f(2, 1) ]", 0, false, ""},
			{"|- exp : proc f(a : val, c : exp) : exp [ a - c ] [ f(2, 1) ]", 0, false, ""},
			{"|- exp : proc f(a : val, b : val) : exp [ a - b ] [ f(2, 1) ]", 0, false, ""},
			{"|- exp : proc g(a : val, b : exp) : exp [ a - b ] [ g(2, 1) ]", 0, false, ""},
			{"f(val, exp) : exp |- exp : proc f(a : val, b : exp) : exp [ a - b ] [ f(f(1, 2), 1) ]", 0, false, ""},
			{"f(val, exp) : exp |- exp : f(1, 2) - 1", 0, true, ""},
			{"a : exp, b : exp |- exp : a + b - 1", 0, true, "a : exp, b : exp |- exp : proc f(a : val, b : exp) : exp [ a - b ] [ f(a + b, 1) ]"},
		}},
		{"exp : proc f() : exp [ fault ] [ 1 ] ~ 1", []applied{
			{"|- exp : proc f() : exp [ fault ] [ 1 ]", 0, false, "|- exp : 1"},
			{"|- exp : proc f() : com { fault } [ 1 ]", 0, false, ""},
			{"|- com : proc f() : exp [ fault ] { skip }", 0, false, ""},
		}},
		{"exp : do { stop } [ fault ] ~ stop", []applied{
			{"|- exp : do { stop } [ fault ]", 0, false, "|- exp : stop"},
			{"|- exp : do { fault } [ stop ]", 0, false, ""},
			{"|- com : stop", 0, true, ""},
			{"|- exp : stop", 0, true, "|- exp : do { stop } [ fault ]"},
			{"|- exp : 1 + stop", 2, true, "|- exp : 1 + do { stop } [ fault ]"},
		}},
	})
}

// P6.3: what a name of a term is bound by does not matter, neither that an unknown has this name.
func TestNamesOfUnknowns(t *testing.T) {
	wantMatchings(t, []matching{
		{"com : if x { p } { q } ~ if x == 0 { q } { p }", []applied{
			{"p : com, q : com, x : exp |- com : if x + x { q; p } { p; q }", 0, false, "p : com, q : com, x : exp |- com : if x + x == 0 { p; q } { q; p }"},
			{"x : com, p : exp |- com : if p { x } { skip }", 0, false, "p : exp, x : com |- com : if p == 0 { skip } { x }"},
			{"p(val) : com |- com : if 1 { p(2) } { skip }", 0, false, "p(val) : com |- com : if 1 == 0 { skip } { p(2) }"},
			{"|- com : new p = 1 { if p { p := 2 } { p := 3 } }", 2, false, "|- com : new p = 1 { if p == 0 { p := 3 } { p := 2 } }"},
			{"|- com : block q { if 1 { exit q } { skip } }", 1, false, "|- com : block q { if 1 == 0 { skip } { exit q } }"},
			{"|- com : proc x(q : exp, p : val) : com { if q { p := 1 } { p := q } } { x(1, 2) }", 1, false, "|- com : proc x(q : exp, p : val) : com { if q == 0 { p := q } { p := 1 } } { x(1, 2) }"},
		}},
		// In its block a procedure of an unknown's name is what it is; in its body the unknown is called.
		{"com : proc p() : com { p } { p; p } ~ p; p", []applied{
			{"|- com : proc p() : com { stop } { p; p }", 0, false, "|- com : stop; stop"},
			{"|- com : proc p() : com { stop } { stop; stop }", 0, false, ""},
			{"|- com : proc q() : com { stop } { q; q }", 0, false, ""},
			{"p : com |- com : proc p() : com { p } { p; p }", 0, false, "p : com |- com : p; p"},
			{"p : com |- com : p; p", 0, true, "p : com |- com : proc p() : com { p } { p; p }"},
			{"|- com : new p = 0 { p := 1; p := 1 }", 2, true, "|- com : new p = 0 { proc p() : com { p := 1 } { p; p } }"},
		}},
		{"com : new p = 0 { q } ~ q", []applied{
			{"p : com |- com : p", 0, true, ""},
			{"q : com |- com : new p = 0 { q }", 0, false, "q : com |- com : q"},
			{"|- com : new p = 0 { p := p }", 0, false, ""},
		}},
	})
}
