package tell

import (
	"reflect"
	"slices"
	"sync"
	"testing"

	"doppelganger/api"
	"doppelganger/lang"
)

// wantErrors checks that all functions with two pieces return an error, and nothing else.
func wantErrors(t *testing.T, p, q *lang.Piece, want api.Errno) {
	t.Helper()
	if same, err := Same(p, q); same || err != want {
		t.Errorf("Same of %q and %q: %v, %d; want %d", p.Text(), q.Text(), same, err, want)
	}
	if play, first, err := Differ(p, q); len(play) > 0 || first || err != want {
		t.Errorf("Differ of %q and %q: %v, %v, %d; want %d", p.Text(), q.Text(), play, first, err, want)
	}
	if pairs, err := Certify(p, q); len(pairs) > 0 || err != want {
		t.Errorf("Certify of %q and %q: %v, %d; want %d", p.Text(), q.Text(), pairs, err, want)
	}
	for _, pairs := range [][]api.Pair{nil, {{A: 0, B: 0}}, {{A: -7, B: 1 << 40}}} {
		if err := Check(p, q, pairs); err != want {
			t.Errorf("Check of %q and %q: %d; want %d", p.Text(), q.Text(), err, want)
		}
	}
	if declares(p.Decls(), "hole") && want != api.ErrArg && want != api.ErrType {
		want = api.ErrName
	}
	if context, err := Witness(p, q); context != nil || err != want {
		t.Errorf("Witness of %q and %q: %d; want %d", p.Text(), q.Text(), err, want)
	}
}

// border is a command that is beyond the border, of f(com) : com.
const border = "f({ block k { f({ exit k }) } })"

// P5.1, P5.5: errors, ahead of one another.
func TestErrors(t *testing.T) {
	read := func(decls, term string) *lang.Piece { return mustRead(t, decls+" |- com : "+term) }
	plain, full := read("f(com) : com", "skip"), read("f(com) : com", border)
	other := read("f(exp) : com", "skip")
	for _, none := range []*lang.Piece{nil, {}} {
		wantErrors(t, none, none, api.ErrArg)
		for _, p := range []*lang.Piece{plain, full, read("hole : com", "hole")} {
			wantErrors(t, none, p, api.ErrArg)
			wantErrors(t, p, none, api.ErrArg)
		}
	}
	for _, q := range []*lang.Piece{
		other, read("", "skip"), read("g(com) : com", "skip"), read("f : com", "skip"), read("f(com) : exp", "skip"), read("f(com, com) : com", "skip"), read("f(com) : com, g : com", "skip"),
		read("f(val) : com", "skip"), read("hole(com) : com", "skip"), mustRead(t, "f(com) : com |- exp : 1"),
	} {
		for _, p := range []*lang.Piece{plain, full} {
			wantErrors(t, p, q, api.ErrType)
			wantErrors(t, q, p, api.ErrType)
		}
	}
	wantErrors(t, read("f(com) : com, hole : com", "hole"), plain, api.ErrType)
	wantErrors(t, full, plain, api.ErrFull)
	wantErrors(t, plain, full, api.ErrFull)
	wantErrors(t, full, full, api.ErrFull)
	wantErrors(t, read("hole : com, f(com) : com", border), read("f(com) : com, hole : com", "skip"), api.ErrFull)
	wantErrors(t, read("p : com", tooLong()), read("p : com", "p"), api.ErrFull)
}

// tooLong returns a command that makes too many beats in a row.
func tooLong() string {
	text := "skip"
	for range 9 {
		text = "new a = 3 { while a { a := a - 1; " + text + " } }"
	}
	return text
}

// P5.2, P5.5, P5.6: pieces that are the same, and pieces that are apart.
func TestErrorsOfSameness(t *testing.T) {
	for _, c := range []struct {
		decls   string
		witness api.Errno
	}{{"p : com", api.ErrSame}, {"hole : com", api.ErrName}, {"hole(com, val) : exp, p : com", api.ErrName}} {
		p, q, r := mustRead(t, c.decls+" |- com : skip"), mustRead(t, c.decls+" |- com : skip; skip"), mustRead(t, c.decls+" |- com : stop")
		if context, err := Witness(p, q); context != nil || err != c.witness {
			t.Errorf("Witness with %q: %d; want %d", c.decls, err, c.witness)
		}
		if play, first, err := Differ(p, q); len(play) > 0 || first || err != api.ErrSame {
			t.Errorf("Differ with %q: %v, %v, %d", c.decls, play, first, err)
		}
		if pairs, err := Certify(p, r); len(pairs) > 0 || err != api.ErrApart {
			t.Errorf("Certify with %q: %v, %d", c.decls, pairs, err)
		}
		if same, err := Same(p, q); !same || err != api.OK {
			t.Errorf("Same with %q: %v, %d", c.decls, same, err)
		}
	}
	p, q := mustRead(t, "hole : com |- com : skip"), mustRead(t, "hole : com |- com : hole")
	if context, err := Witness(p, q); context != nil || err != api.ErrName {
		t.Errorf("Witness of pieces that are apart: %d", err)
	}
}

// P5.4: errors of Context, ahead of one another.
func TestErrorsOfContext(t *testing.T) {
	p, hole := api.Decl{Name: "p"}, api.Decl{Name: "hole"}
	form := [][]api.Move{nil, {}, {{}}, {{}, {Name: "p", Answer: true}}, rowOf("? !0 ?"), rowOf("? q?"), {{Name: "p", Arg: -1}, {Value: -4}}, {{}, {Answer: true, Value: 1 << 40}}, {{}, {Name: "p", Fault: true}}, {{}, {Name: "p", Arg: 1}}, {{}, {Name: "p", Value: -1}}}
	rows := append(form, rowOf("? !0"), rowOf("? p?"), make([]api.Move, 100000))
	for _, row := range rows {
		for _, decls := range [][]api.Decl{
			{p, p}, {hole, hole}, {{Name: ""}}, {{Name: "P"}}, {{Name: "abcdefghi"}}, {{Name: "skip"}}, {{Name: "p", Result: api.Val}}, {{Name: "p", Result: -1}},
			{{Name: "p", Args: []api.Type{3}}}, {{Name: "p", Args: make([]api.Type, api.MaxArgs+1)}}, {{Name: "a"}, {Name: "b"}, {Name: "c"}, {Name: "d"}, hole},
		} {
			wantNoContext(t, decls, api.Com, row, api.ErrArg)
		}
		for _, typ := range []api.Type{api.Val, -1, 3, 1 << 40} {
			wantNoContext(t, []api.Decl{p}, typ, row, api.ErrArg)
			wantNoContext(t, []api.Decl{hole}, typ, row, api.ErrArg)
		}
		for _, decls := range [][]api.Decl{{hole}, {p, hole}, {{Name: "hole", Args: []api.Type{api.Val}, Result: api.Exp}, p}} {
			wantNoContext(t, decls, api.Com, row, api.ErrName)
		}
	}
	for _, row := range form {
		wantNoContext(t, []api.Decl{p}, api.Com, row, api.ErrForm)
		wantNoContext(t, nil, api.Exp, row, api.ErrForm)
	}
}

func wantNoContext(t *testing.T, decls []api.Decl, typ api.Type, row []api.Move, want api.Errno) {
	t.Helper()
	if context, err := Context(decls, typ, row); context != nil || err != want {
		t.Errorf("Context for %v, %d and %d moves, %v: %d; want %d", decls, typ, len(row), row[:min(len(row), 8)], err, want)
	}
}

// P3, P4: arguments stay as they are, results share no memory, and the same comes of it each time, also at the same time.
func TestCallsAtTheSameTime(t *testing.T) {
	decls := []api.Decl{{Name: "x", Result: api.Exp}, {Name: "f", Args: []api.Type{api.Com, api.Val}}}
	before := []api.Decl{{Name: "x", Result: api.Exp}, {Name: "f", Args: []api.Type{api.Com, api.Val}}}
	p, q := mustRead(t, "f(com, val) : com, x : exp |- com : f({ skip }, x)"), mustRead(t, "f(com, val) : com, x : exp |- com : f({ stop }, x)")
	r := mustRead(t, "f(com, val) : com, x : exp |- com : new a = x { f({ skip }, a) }")
	moves := rowOf("? x? x!0 f(0)? f.1? f.1!0")
	context := mustContext(t, decls, api.Com, moves).Text()
	witness, err := Witness(p, q)
	certificate, errToo := Certify(p, r)
	if err != api.OK || errToo != api.OK || len(certificate) == 0 {
		t.Fatalf("Witness: %d, Certify: %v, %d", err, certificate, errToo)
	}
	texts := []string{p.Text(), q.Text(), r.Text()}
	var all sync.WaitGroup
	for range 8 {
		all.Go(func() {
			for range 20 {
				play, first, err := Differ(p, q)
				if !slices.Equal(play, moves) || !first || err != api.OK {
					t.Errorf("Differ: %v, %v, %d", play, first, err)
				}
				if c, err := Context(decls, api.Com, play); err != api.OK || c.Text() != context {
					t.Errorf("another context: %d", err)
				}
				clear(play)
				if w, err := Witness(p, q); err != api.OK || w.Text() != witness.Text() {
					t.Errorf("another witness: %d", err)
				}
				pairs, err := Certify(p, r)
				if err != api.OK || !slices.Equal(pairs, certificate) || Check(p, r, pairs) != api.OK || !slices.Equal(pairs, certificate) {
					t.Errorf("another certificate: %v, %d", pairs, err)
				}
				clear(pairs)
			}
		})
	}
	all.Wait()
	if !reflect.DeepEqual(decls, before) || !slices.Equal(texts, []string{p.Text(), q.Text(), r.Text()}) {
		t.Error("arguments are other ones")
	}
	c := mustContext(t, decls, api.Com, moves)
	decls[1].Args[0] = api.Exp
	decls[0].Name = "other"
	moves[1] = api.Move{Fault: true}
	if c.Text() != context {
		t.Error("a context is another one when what it was made of is changed")
	}
}
