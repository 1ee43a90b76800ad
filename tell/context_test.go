package tell

import (
	"math/rand"
	"slices"
	"strings"
	"testing"

	"doppelganger/api"
	"doppelganger/lang"
	"doppelganger/moves"
)

// mustContext returns a context, and checks its shape.
func mustContext(t *testing.T, decls []api.Decl, typ api.Type, row []api.Move) *lang.Piece {
	t.Helper()
	context, err := Context(decls, typ, row)
	if err != api.OK {
		t.Fatalf("Context for %v and %v: %d", decls, row, err)
	}
	wantShape(t, context, typ, len(row))
	return context
}

// contexts checks in which pieces a row of moves is shown. All of them are to have the declarations of the first one, and its type.
func contexts(t *testing.T, row string, show, hide []string) {
	t.Helper()
	first := mustRead(t, slices.Concat(show, hide)[0])
	context := mustContext(t, first.Decls(), first.Type(), rowOf(row))
	for faults, texts := range map[bool][]string{true: show, false: hide} {
		for _, one := range texts {
			wantIn(t, context, mustRead(t, one), faults)
		}
	}
}

// P5.4: a piece that has the play comes to the fault, another one never ends.
func TestContext(t *testing.T) {
	com := func(decls string, terms ...string) []string {
		var list []string
		for _, one := range terms {
			list = append(list, decls+" |- com : "+one)
		}
		return list
	}
	p := func(terms ...string) []string { return com("p : com", terms...) }
	contexts(t, "? p? p!0 p?", p("p; p", "p; p; p", "p; p; fault", "while 1 { p }"), p("p", "skip", "stop", "p; stop", "p; skip"))
	contexts(t, "? p? p!0 !0", p("p", "skip; p", "p; fault"), p("p; p", "skip", "p; stop"))
	contexts(t, "? p?", p("p", "p; p", "fault"), p("skip", "stop", "while 1 { skip }"))
	contexts(t, "? !0", p("skip", "fault"), p("p", "stop"))
	contexts(t, "? fault", p("fault", "skip; fault"), p("skip", "p", "p; fault", "stop"))
	contexts(t, "? p? p!0 fault", p("p; fault", "fault"), p("p", "p; p", "skip", "p; p; fault"))
	x := func(terms ...string) []string {
		var list []string
		for _, one := range terms {
			list = append(list, "x : exp |- exp : "+one)
		}
		return list
	}
	contexts(t, "? x? x!2 !3", x("x + 1", "if x == 2 [ 3 ] [ 0 ]"), x("x", "x * 2", "x + x - 1", "3", "stop"))
	contexts(t, "? x? x!2 x? x!1 !3", x("x + x", "x - x + 2"), x("x * 2 + 1", "x - x"))
	contexts(t, "? x? x!0 x? x!0 x? x!3 x? x!1 !0", x("x + x + x + x", "0 * (x + x + x + x)"), x("x + x + x", "x + x + x + x + x", "x"))
	f := func(terms ...string) []string { return com("f(com) : com", terms...) }
	contexts(t, "? f? f.1? f.1!0", f("f({ skip })", "f({ block k { exit k } })", "f({ fault })"), f("f({ stop })", "skip", "block k { f({ exit k }) }", "f({ f({ skip }) })"))
	contexts(t, "? f? f.1? f.1!0 f.1? fault", f("new a = 0 { f({ if a { fault } { a := 1 } }) }", "f({ fault })"), f("f({ skip })", "new a = 0 { f({ if a { fault } { skip } }) }", "f({ new a = 0 { if a { fault } { a := 1 } } })"))
	contexts(t, "? f? f.1? !0", f("block k { f({ exit k }) }", "f({ fault })"), f("f({ skip })", "block k { f({ exit k }) }; stop", "block k { f({ exit k }); stop }; f({ skip })"))
	contexts(t, "? f? f.1? f? f!0 f.1!0 f!0 f?", f("f({ f({ stop }) }); f({ skip })"), f("f({ f({ stop }) })", "f({ skip }); f({ skip })"))
	contexts(t, "? f? f.1? f? f.1? f.1!0 f!0 f.1!0 f!0 !0", f("f({ f({ skip }) })"), f("f({ skip })", "f({ f({ f({ skip }) }) })", "block k { f({ f({ exit k }) }) }"))
	contexts(t, "? f? f.1? f? f.1? f.1!0", f("f({ f({ skip }) })"), f("f({ block k { f({ exit k }) }; stop })"))
	h := func(terms ...string) []string { return com("h(val, exp, val) : exp", terms...) }
	contexts(t, "? h(1,3)? h.2? h.2!2 h!3 h(3,0)?", h("new a = h(1, 2, 3) { a := h(a, 0, 0) }"), h("new a = h(1, 2, 3) { a := h(0, 0, a) }", "new a = h(1, 3, 3) { a := h(a, 0, 0) }", "new a = h(3, 2, 1) { a := h(a, 0, 0) }", "new a = h(1, 2, 3) { skip }"))
	g := func(terms ...string) []string { return com("g(com, exp, com) : com, p : com, q : com", terms...) }
	contexts(t, "? g? g.3? q? q!0 g.3!0 g.1? p? p!0 g.1!0 g.2? g.2!1 g.3? q?", g("g({ p }, 1, { q })", "g({ p; skip }, 3 * 3, { new a = 2 { q } })"), g("g({ q }, 1, { p })", "g({ p }, 2, { q })", "g({ skip }, 1, { q })", "g({ p }, 1, { p })", "g({ q }, 1, { q })"))
	contexts(t, "? g? g.3? g.3!0 g.2? g.2!2 g.2? g.2!1 g.1? g.1!0 g!0 !0", g("new a = 3 { g({ skip }, do { a := a - 1 } [ a ], { skip }) }"), g("new a = 3 { g({ skip }, do { a := a - 1 } [ a ], { a := 0 }) }", "new a = 3 { g({ skip }, a - 1, { skip }) }", "new a = 3 { g({ p }, do { a := a - 1 } [ a ], { skip }) }"))
	// Arguments that are not asked about do not count.
	contexts(t, "? h? h!0 !0", h("new a = h(0, stop, 0) { skip }", "new a = h(0, fault, 0) { skip }"), h("new a = h(0, stop, 1) { skip }", "new a = h(stop, 0, 0) { skip }"))
}

// P5.4: pieces beyond the border have plays, too: what counts is just which moves they make.
func TestContextBeyondBorder(t *testing.T) {
	const border, inside = "f(com) : com |- com : f({ block k { f({ exit k }) } })", "f(com) : com |- com : f({ f({ skip }) })"
	contexts(t, "? f? f.1? f? f.1? f.1!0", []string{border, inside}, []string{"f(com) : com |- com : f({ skip })"})
	contexts(t, "? f? f.1? f? f.1? f.1!0 f!0 !0", []string{border}, []string{inside})
	contexts(t, "? f? f.1? f? f.1? f.1!0 f!0 f.1!0", []string{inside}, []string{border})
	contexts(t, "? f? f.1? f? f.1? f.1!0 f.1? f?", []string{border}, []string{inside})
	contexts(t, "? f? f.1? f? f.1? f.1!0 f.1? f.1!0", []string{inside}, []string{border})
}

// P5.4: names of all kinds may be declared.
func TestContextNames(t *testing.T) {
	for _, names := range [][]string{
		{"a", "b", "c", "d"}, {"z", "y", "x", "w"}, {"d", "g", "h", "i"}, {"e", "f", "j", "a"}, {"count", "holes", "hol", "abcdefgh"},
	} {
		named := strings.NewReplacer("M", names[0], "N", names[1], "O", names[2], "P", names[3]).Replace
		read := func(term string) *lang.Piece {
			return mustRead(t, named("M(val, com, val) : exp, N(exp) : exp, O : com, P : com |- com : "+term))
		}
		p := read("new r = M(1, { O }, 2) { if N(r) == 3 { O } { skip } }")
		context := mustContext(t, p.Decls(), api.Com, rowOf(named("? M(1,2)? M.2? O? O!0 M.2!0 M!2 N? N.1? N.1!2 N!3 O?")))
		wantIn(t, context, p, true)
		wantIn(t, context, read("new r = M(1, { O }, 2) { if N(r) == 2 { O } { skip } }"), false)
		wantIn(t, context, read("new r = M(2, { O }, 2) { if N(r) == 3 { O } { skip } }"), false)
		wantIn(t, context, read("new r = M(1, { P }, 2) { if N(r) == 3 { O } { skip } }"), false)
	}
}

// shows reports whether a piece has a play, or faults along it.
func shows(t *testing.T, p *lang.Piece, row []api.Move) bool {
	t.Helper()
	for at := 1; at < len(row); at += 2 {
		faulting := append(slices.Clone(row[:at]), api.Move{Fault: true})
		if has(t, p, faulting) {
			return true
		}
	}
	return has(t, p, row)
}

// P5.4: contexts of random rows, with random pieces of the same declarations and type.
func TestRandomContexts(t *testing.T) {
	ends := map[bool]int{}
	long := 0
	for seed := range 1200 {
		random := rand.New(rand.NewSource(int64(seed)))
		names := declarations[random.Intn(len(declarations))]
		decls, typ := declsOf(names), api.Type(random.Intn(2))
		var list []*lang.Piece
		var rows [][]api.Move
		for i := range 3 {
			p, ok := piece(t, text(decls, typ, newMaker(3*seed+i, decls).whole(typ)))
			if !ok {
				continue
			}
			if m, err := moves.Plays(p); err == api.OK {
				list = append(list, p)
				rows = append(rows, randomPlay(random, p, m, 12), randomPlay(random, p, m, 30))
			}
		}
		rows = append(rows, follower{decls, typ}.row(random, 8))
		for _, row := range rows {
			if len(row) == 0 {
				continue
			}
			if random.Intn(3) == 0 {
				row[len(row)-1] = api.Move{Fault: true}
			}
			context := mustContext(t, decls, typ, row)
			for _, p := range list {
				faults := shows(t, p, row)
				if wantIn(t, context, p, faults) {
					ends[faults]++
					if faults && len(row) > 12 {
						long++
					}
				}
			}
		}
	}
	if ends[true] < 1500 || ends[false] < 4000 || long < 100 {
		t.Errorf("the contexts show little: %v, and %d of long plays", ends, long)
	}
}

// P5.4: the sizes of contexts for plays of 12 moves.
func TestContextSizes(t *testing.T) {
	vals := []api.Type{api.Val, api.Val, api.Val}
	widest := []api.Decl{{Name: "a", Args: vals, Result: api.Exp}, {Name: "b", Args: vals, Result: api.Exp}, {Name: "c", Args: vals, Result: api.Exp}, {Name: "d", Args: vals, Result: api.Exp}}
	exps := []api.Type{api.Exp, api.Exp, api.Exp}
	most := []api.Decl{{Name: "a", Args: exps, Result: api.Exp}, {Name: "b", Args: exps, Result: api.Exp}, {Name: "c", Args: exps}, {Name: "d", Args: exps}}
	mixed := []api.Decl{{Name: "a", Args: []api.Type{api.Val, api.Exp, api.Val}, Result: api.Exp}, {Name: "b", Args: []api.Type{api.Com, api.Exp, api.Com}, Result: api.Exp}, {Name: "c", Args: []api.Type{api.Val, api.Exp}}, {Name: "d"}}
	for i, decls := range [][]api.Decl{widest, most, mixed} {
		random := rand.New(rand.NewSource(int64(i)))
		for range 2000 {
			typ := api.Type(random.Intn(2))
			mustContext(t, decls, typ, follower{decls, typ}.row(random, 12))
		}
	}
}

// P5.4: a context for a long play is right, unless it would be too great.
func TestLongContexts(t *testing.T) {
	p := mustRead(t, "p : com |- com : while 1 { p }")
	less := mustRead(t, "p : com |- com : new a = 3 { while a { p; p; p; a := a - 1 } }")
	row := rowOf("? p?")
	made := 0
	for len(row) < 300 {
		context, err := Context(p.Decls(), api.Com, row)
		switch {
		case err == api.OK:
			made++
			wantShape(t, context, api.Com, len(row))
			wantIn(t, context, p, true)
			wantIn(t, context, less, len(row) <= 18)
		case err != api.ErrFull || context != nil || len(row) <= 12:
			t.Fatalf("Context for %d moves: %d", len(row), err)
		}
		row = append(row, rowOf("p!0 p?")...)
	}
	if made < 30 {
		t.Errorf("only %d contexts were made", made)
	}
	again := rowOf("p!0 p?")
	for len(row) < 1<<20 {
		row = append(row, again...)
	}
	if context, err := Context(p.Decls(), api.Com, row); err != api.ErrFull || context != nil {
		t.Errorf("Context for %d moves: %d", len(row), err)
	}
	if context, err := Context(p.Decls(), api.Com, append(row, api.Move{})); err != api.ErrForm || context != nil {
		t.Errorf("Context for %d moves: %d", len(row)+1, err)
	}
}

// loud returns a context in which each Stop is a Fault, so that it is told how many steps were made when it is begun.
func loud(t *testing.T, context *lang.Piece) *lang.Piece {
	t.Helper()
	nodes := context.Nodes()
	for at := range nodes {
		if nodes[at].Kind == api.Stop {
			nodes[at].Kind = api.Fault
		}
	}
	p, err := lang.Build(context.Decls(), context.Type(), nodes)
	if err != api.OK {
		t.Fatalf("Build: %d", err)
	}
	return p
}

// P5.4: how many steps a context makes, and how often it runs what it is given. Each run of this makes 2 steps more when "skip; " stands ahead of it, in the hole and in the arguments.
func TestContextSteps(t *testing.T) {
	const pad = 8
	decls := []api.Decl{{Name: "f", Args: []api.Type{api.Com, api.Val, api.Exp}, Result: api.Exp}, {Name: "g", Args: []api.Type{api.Com}}, {Name: "h", Args: []api.Type{api.Val, api.Val, api.Val}, Result: api.Exp}}
	term := "P; new a = f({ P; skip }, do { P } [ 1 ], do { P } [ 2 ]) { while 1 { g({ P; g({ P; skip }) }); if h(do { P } [ a ], do { P } [ 0 ], do { P } [ 0 ]) { skip } { a := f({ P; skip }, do { P } [ 1 ], do { P } [ 2 ]) } } }"
	plain := mustRead(t, text(decls, api.Com, strings.ReplaceAll(term, "P", "skip")))
	padded := mustRead(t, text(decls, api.Com, strings.ReplaceAll(term, "P", "skip"+strings.Repeat("; skip", pad))))
	random := rand.New(rand.NewSource(1))
	m, err := moves.Plays(plain)
	if err != api.OK {
		t.Fatalf("Plays: %d", err)
	}
	most := 0
	for i := range 2000 {
		row := randomPlay(random, plain, m, 12)
		if i%2 == 0 {
			row = follower{decls, api.Com}.row(random, 12)
		}
		context := loud(t, mustContext(t, decls, api.Com, row))
		filled, ok := fill(t, context, plain)
		filledToo, okToo := fill(t, context, padded)
		if !ok || !okToo {
			t.Fatal("a context is too great")
		}
		_, steps, ok := run(t, filled)
		_, stepsToo, okToo := run(t, filledToo)
		runs := (stepsToo - steps) / (2 * pad)
		if !ok || !okToo || steps > 5000 || runs < 1 || runs > 20 {
			t.Errorf("%d steps in %q, which runs what it is given %d times", steps, context.Text(), runs)
		}
		most = max(most, runs)
	}
	if most < 8 {
		t.Errorf("what is given is run at most %d times", most)
	}
}
