package lang

import (
	"strings"
	"testing"

	"doppelganger/api"
)

// P1.2: what binds names, and where.
func TestNames(t *testing.T) {
	for text, want := range map[string]api.Errno{
		"x : exp |- exp : x + x": api.OK,
		"x : exp |- exp : y":     api.ErrName,
		"|- com : p":             api.ErrName,
		"|- com : x := 1":        api.ErrName,
		"|- com : exit k":        api.ErrName,
		// New binds in its block, not in its expression, nor behind it.
		"|- exp : new x = 1 [ x ]":                                                        api.OK,
		"|- exp : new x = x [ x ]":                                                        api.ErrName,
		"|- com : new x = 1 { skip }; x := 1":                                             api.ErrName,
		"|- exp : (new x = 1 [ x ]) + x":                                                  api.ErrName,
		"x : exp |- exp : new x = x [ x ]":                                                api.OK,
		"x(exp) : exp |- exp : new x = x(1) [ x ]":                                        api.OK,
		"x(exp) : exp |- exp : new x = x [ x ]":                                           api.ErrType,
		"|- com : new x = 0 { new y = x { x := y }; x := 1 }":                             api.OK,
		"|- com : new x = 0 { new y = x { x := y }; x := y }":                             api.ErrName,
		"|- com : new x = 0 { if x { x := x } { while x { skip } } }; block x { exit x }": api.OK,
		// Proc binds its name in its block, its parameters in its body.
		"|- com : proc f() : com { skip } { f; f }":                              api.OK,
		"|- com : proc f() : com { f } { f }":                                    api.ErrName,
		"|- com : proc f() : com { skip } { skip }; f":                           api.ErrName,
		"f : com |- com : proc f() : com { f } { f }":                            api.OK,
		"f : com |- com : proc f(a : com) : com { f; a } { f({ skip }) }":        api.OK,
		"f : com |- com : proc f(a : com) : com { f; a } { f({ f({ skip }) }) }": api.OK,
		"f : com |- com : proc f(a : com) : com { f; a } { f({ f }) }":           api.ErrType,
		"|- com : proc f(a : com) : com { a } { a }":                             api.ErrName,
		"|- com : proc f(a : com) : com { a } { f({ a }) }":                      api.ErrName,
		"|- com : proc f(f : com) : com { f } { f({ skip }) }":                   api.OK,
		"|- com : proc f(f : com) : com { f({ skip }) } { f({ skip }) }":         api.ErrType,
		"|- com : proc f(a : exp) : exp [ a + a ] { new x = f(f(1)) { skip } }":  api.OK,
		// A parameter of the type val is a variable of the body.
		"|- com : proc f(a : val) : com { a := a + 1 } { f(2) }":   api.OK,
		"|- com : proc f(a : val) : com { a } { f(2) }":            api.ErrType,
		"|- exp : proc f(a : val) : exp [ a(1) ] [ f(2) ]":         api.ErrType,
		"|- com : proc f(a : val) : com { skip } { a := 1 }":       api.ErrName,
		"|- com : proc f(a : val) : com { exit a } { f(1) }":       api.ErrType,
		"|- com : proc f(a : exp) : com { a := 1 } { f(1) }":       api.ErrType,
		"|- com : proc f(a : exp) : com { a(1) := 1 } { f(1) }":    api.ErrForm,
		"|- exp : proc f(a : exp) : exp [ a(1) ] [ f(1) ]":         api.ErrType,
		"|- com : proc f(a : com) : com { a({ skip }) } { f(1) }":  api.ErrType,
		"|- exp : new a = 0 [ proc f(a : com) : exp [ a ] [ 1 ] ]": api.ErrType,
		// Labels.
		"|- com : block k { exit k; exit k }":                             api.OK,
		"|- com : block k { skip }; exit k":                               api.ErrName,
		"|- com : block k { proc f() : com { exit k } { f } }":            api.OK,
		"f(com) : com |- com : block k { f({ exit k }) }":                 api.OK,
		"|- com : block k { new x = exit k { x := exit k } }":             api.OK,
		"|- com : block k { block j { exit k } }":                         api.OK,
		"|- com : block k { block j { skip }; exit j }":                   api.ErrName,
		"|- com : block k { new x = k { skip } }":                         api.ErrType,
		"|- com : block k { new x = k(1) { skip } }":                      api.ErrType,
		"|- com : block k { k({ skip }) }":                                api.ErrType,
		"|- com : block k { proc f() : com { exit f } { exit f } }":       api.ErrName,
		"|- com : block k { proc f() : com { exit k } { exit f } }":       api.ErrType,
		"|- com : proc f(k : com) : com { exit k } { f({ skip }) }":       api.ErrType,
		"|- com : block k { proc f() : com { block k { exit k } } { f }}": api.OK,
		// An inner binding hides an outer one, of whatever sort.
		"|- com : new x = 0 { block x { x := 1 } }":                         api.ErrType,
		"|- com : block x { new x = 0 { exit x } }":                         api.ErrType,
		"|- com : block x { new x = 0 { x := 1 }; exit x }":                 api.OK,
		"x : com |- com : new x = 0 { x }":                                  api.ErrType,
		"x : exp |- com : proc x() : com { skip } { x := 1 }":               api.ErrType,
		"|- com : new x = 0 { proc x() : com { x := 1 } { x } }":            api.OK,
		"|- com : new x = 0 { proc f(x : com) : com { x } { f({ x }) } }":   api.ErrType,
		"|- com : new x = 0 { proc f(x : exp) : exp [ x ] { x := f(x) } }":  api.OK,
		"|- com : proc f() : com { skip } { new f = 0 { f := 1 }; f }":      api.OK,
		"|- com : proc f() : com { skip } { proc f() : exp [ 1 ] { f }; f}": api.ErrType,
	} {
		wantRead(t, text, want)
	}
}

// P1.3: types.
func TestTypes(t *testing.T) {
	for text, want := range map[string]api.Errno{
		"p : com |- com : p":                                           api.OK,
		"p : com |- exp : p":                                           api.ErrType,
		"p : exp |- com : p":                                           api.ErrType,
		"p : com |- com : new x = p { skip }":                          api.ErrType,
		"f(com) : exp |- exp : f({ stop })":                            api.OK,
		"f(com) : exp |- com : f({ stop })":                            api.ErrType,
		"f(com) : com |- com : f(1)":                                   api.ErrType,
		"f(exp) : com |- com : f({ skip })":                            api.ErrType,
		"f(val) : com |- com : f({ skip })":                            api.ErrType,
		"f(val) : com |- com : f(1)":                                   api.OK,
		"f(exp) : com |- com : f(1 + 1)":                               api.OK,
		"f(exp, val, com) : com |- com : f(1, 2, { skip })":            api.OK,
		"f(exp, val, com) : com |- com : f(1, { skip }, 2)":            api.ErrType,
		"f(exp, val, com) : com |- com : f(1, 2)":                      api.ErrType,
		"f(exp, val) : com |- com : f(1, 2, 3)":                        api.ErrType,
		"f(exp) : com |- com : f":                                      api.ErrType,
		"f : com |- com : f(1)":                                        api.ErrType,
		"f : exp |- exp : f(1)":                                        api.ErrType,
		"|- com : new x = 0 { x }":                                     api.ErrType,
		"|- com : new x = 0 { x(1) }":                                  api.ErrType,
		"|- exp : new x = 0 [ x(1) ]":                                  api.ErrType,
		"p : exp |- com : p := 1":                                      api.ErrType,
		"|- com : proc f() : exp [ 1 ] { f := 1 }":                     api.ErrType,
		"|- com : proc f() : exp [ 1 ] { f }":                          api.ErrType,
		"|- exp : proc f() : com { skip } [ f ]":                       api.ErrType,
		"|- com : proc f(a : com, b : val) : com { a } { f({ f }, 1)}": api.ErrType,
		"p : com |- com : exit p":                                      api.ErrType,
		"|- com : new x = 0 { exit x }":                                api.ErrType,
		"|- exp : do { block k { if exit k { exit k } { new x = exit k + 1 { exit k } } } } [ 1 ]": api.OK,
	} {
		wantRead(t, text, want)
	}
}

// P1.5: the first error, in the order of nodes; ErrForm ahead of all, ErrFull behind all.
func TestErrorOrder(t *testing.T) {
	long := strings.Repeat("skip; ", api.MaxNodes/2+1)
	for text, want := range map[string]api.Errno{
		"p : com |- com : q; p := 1":                              api.ErrName,
		"p : com |- com : p := 1; q":                              api.ErrType,
		"p : com |- com : p({ q }); q":                            api.ErrType,
		"p : com |- com : p := q":                                 api.ErrType,
		"p : com |- com : q := p":                                 api.ErrName,
		"f(com) : com |- com : f({ q; f })":                       api.ErrName,
		"f(com) : com |- com : f({ f; q })":                       api.ErrType,
		"f(com) : com |- com : f({ q }, 1)":                       api.ErrType,
		"f(exp) : exp |- com : f(q)":                              api.ErrType,
		"f(exp) : exp |- exp : f + q":                             api.ErrType,
		"f(exp) : exp |- exp : q + f":                             api.ErrName,
		"f(exp) : exp |- exp : f(q) + f":                          api.ErrName,
		"p : com |- com : q; p := 1; 5":                           api.ErrForm,
		"p : com |- com : q; p(1, 1, 1, 1)":                       api.ErrForm,
		"p : com |- com : p(1); new x = 4 {}":                     api.ErrForm,
		"|- com : " + long + "q":                                  api.ErrName,
		"p : com |- com : " + long + "p := 1":                     api.ErrType,
		"p : com |- com : " + long + "p":                          api.ErrFull,
		"p : com |- com : " + long + "p; 1":                       api.ErrForm,
		"p : com |- com : new x = q { p := q}":                    api.ErrName,
		"p : com |- com : if p { q } { q }":                       api.ErrType,
		"p : com |- com : while q { p := 1 }":                     api.ErrName,
		"p : com |- com : proc f(a : com) : com { b } { p := 1 }": api.ErrName,
		"p : com |- com : proc f(a : com) : com { p := 1 } { b }": api.ErrType,
		"p : com |- exp : do { p := 1 } [ q ]":                    api.ErrType,
	} {
		wantRead(t, text, want)
	}
}

// P1.4: numbers of nodes and of levels.
func TestLimits(t *testing.T) {
	row := "|- com : while 0 { skip }" + strings.Repeat("; skip", api.MaxNodes/2-2)
	if n := len(mustRead(t, row).Nodes()); n != api.MaxNodes-1 {
		t.Fatalf("the row has %d nodes", n)
	}
	wantRead(t, row+"; skip", api.ErrFull)
	wantRead(t, strings.Replace(row, "{ skip }", "{ new x = 0 { skip } }", 1), api.ErrFull)
	even := strings.Replace(row, "while 0 { skip }", "block k { skip }; skip", 1)
	if n := len(mustRead(t, even).Nodes()); n != api.MaxNodes {
		t.Fatalf("the even row has %d nodes", n)
	}
	wantRead(t, even+"; skip", api.ErrFull)

	sum := "|- exp : 1" + strings.Repeat(" + 1", api.MaxNest-1)
	wantRead(t, sum, api.OK)
	wantRead(t, sum+" + 1", api.ErrFull)
	nest := func(levels int, inner string) string {
		return "|- com : " + strings.Repeat("block k { ", levels) + inner + strings.Repeat(" }", levels)
	}
	wantRead(t, nest(api.MaxNest-1, "skip"), api.OK)
	wantRead(t, nest(api.MaxNest, "skip"), api.ErrFull)
	wantRead(t, nest(api.MaxNest-2, "skip; skip; skip; skip; skip"), api.OK)
	wantRead(t, nest(api.MaxNest-1, "skip; skip"), api.ErrFull)
	wantRead(t, nest(api.MaxNest-2, "skip"+strings.Repeat("; skip", 200)), api.OK)
	wantRead(t, nest(api.MaxNest-3, "while 1 { skip }; while 1 { skip }"), api.OK)
	wantRead(t, nest(api.MaxNest-3, "while 1 { skip }; while 1 { stop; skip }"), api.ErrFull)
	deep := "|- exp : " + strings.Repeat("(", 1900) + "1" + strings.Repeat(")", 1900)
	wantText(t, deep, "|- exp : 1")
	wantRead(t, "|- com : "+strings.Repeat("block k{", 400)+"skip"+strings.Repeat("}", 400), api.ErrFull)
}

// P1.2 to P1.5, P1.7: errors of random terms are those that are found by going from each name outwards; a text and its nodes have the same ones.
func TestNamesOracle(t *testing.T) {
	counts := map[api.Errno]int{}
	for seed := range int64(12000) {
		decls, typ, nodes := sample(seed)
		want := misnamed(decls, nodes)
		counts[want]++
		p, err := Build(decls, typ, copyNodes(nodes))
		if err != want || (p != nil) != (want == api.OK) {
			t.Fatalf("Build of %q: %d; want %d", spell(decls, typ, nodes), err, want)
		}
		text := spell(decls, typ, nodes)
		q, err := Read(text)
		if err != want || (q != nil) != (want == api.OK) {
			t.Fatalf("Read(%q): %d; want %d", text, err, want)
		}
		if want == api.OK && !equal(p, q) {
			t.Fatalf("%q: not what its nodes are built to", text)
		}
	}
	if counts[api.OK] < 500 || counts[api.ErrName] < 500 || counts[api.ErrType] < 500 {
		t.Errorf("too few of a sort: %v", counts)
	}
}
