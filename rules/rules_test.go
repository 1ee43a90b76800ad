package rules

import (
	"slices"
	"strings"
	"testing"

	"doppelganger/api"
	"doppelganger/lang"
)

// The document's examples.
func TestExamples(t *testing.T) {
	b := New()
	for _, x := range []struct {
		rule string
		want api.Errno
	}{{"com : skip; p ~ p", api.OK}, {"com : p; q ~ q; p", api.ErrApart}, {"com : skip ~ if x { skip } { skip }", api.ErrName}} {
		if err := b.Add(sidesOf(t, x.rule)); err != x.want {
			t.Errorf("Add of %q: %d; want %d", x.rule, err, x.want)
		}
	}
	one := mustRead(t, "f(com) : com |- com : skip")
	if err := b.Add(one, one); err != api.ErrType {
		t.Errorf("Add of a name with arguments: %d", err)
	}
	p := mustRead(t, "|- com : skip; skip; fault")
	wantApply(t, b, 0, false, p, 0, "", api.ErrApart)
	wantApply(t, b, 0, false, p, 1, "|- com : skip; fault", api.OK)
	wantApply(t, b, 0, false, p, 4, "", api.ErrApart)
	wantSimplify(t, b, p, "|- com : fault", 0, 0)
	wantApply(t, b, 0, true, mustRead(t, "|- com : fault"), 0, "|- com : skip; fault", api.OK)
	b = bookOf(t, "com : new a = 0 { p } ~ p", "com : block k { p } ~ p", "exp : x + x ~ x + x")
	wantApply(t, b, 0, false, mustRead(t, "|- com : new a = 0 { a := 1 }"), 0, "", api.ErrApart)
	wantApply(t, b, 0, false, mustRead(t, "q : com |- com : new a = 0 { q }"), 0, "q : com |- com : q", api.OK)
	wantApply(t, b, 1, false, mustRead(t, "|- com : block k { exit k }"), 0, "", api.ErrApart)
	wantApply(t, b, 1, false, mustRead(t, "|- com : block j { block k { exit j } }"), 1, "|- com : block j { exit j }", api.OK)
	wantApply(t, b, 2, false, mustRead(t, "|- exp : new a = 1 [ a + a ]"), 2, "|- exp : new a = 1 [ a + a ]", api.OK)
	wantApply(t, b, 2, false, mustRead(t, "|- exp : 1 + 2"), 0, "", api.ErrApart)
}

// fullBook returns a book with as many rules as there can be.
func fullBook(t *testing.T) *Book {
	t.Helper()
	b := New()
	for i := range api.MaxRules {
		if b.Len() != i {
			t.Fatalf("Len: %d; want %d", b.Len(), i)
		}
		if err := b.Add(sidesOf(t, "com : p ~ "+strings.Repeat("skip; ", i)+"p")); err != api.OK {
			t.Fatalf("Add of rule %d: %d", i, err)
		}
	}
	return b
}

// P6.2: errors of Add, ahead of one another. None of them changes the book.
func TestAddErrors(t *testing.T) {
	side := func(decls, term string) *lang.Piece { return mustRead(t, decls+" |- com : "+term) }
	plain, calling, other := side("p : com", "skip"), side("p : com", "p"), side("q : com", "q")
	argued, declared := side("f(com) : com", "f({ skip })"), side("f(val) : com, p : com", "skip")
	expression := mustRead(t, "p : com |- exp : 1")
	border := "f({ block k { f({ exit k }) } })"
	many := side("p : com", procedures(15))
	for _, b := range []*Book{New(), bookOf(t, "com : skip; p ~ p"), fullBook(t)} {
		for _, x := range []struct {
			left, right *lang.Piece
			want        api.Errno
		}{
			{nil, nil, api.ErrArg}, {nil, plain, api.ErrArg}, {plain, nil, api.ErrArg}, {&lang.Piece{}, plain, api.ErrArg}, {argued, &lang.Piece{}, api.ErrArg},
			{argued, argued, api.ErrType}, {declared, declared, api.ErrType}, {plain, declared, api.ErrType}, {declared, plain, api.ErrType}, {plain, argued, api.ErrType},
			{side("f(com) : com", border), side("f(com) : com", border), api.ErrType}, {plain, other, api.ErrType}, {other, calling, api.ErrType},
			{plain, expression, api.ErrType}, {expression, plain, api.ErrType}, {expression, mustRead(t, "p : com |- exp : do { p } [ 1 ]"), api.ErrName},
			{plain, side("", "skip"), api.ErrType}, {plain, side("p : exp", "skip"), api.ErrType}, {side("p : com, q : com", "p"), calling, api.ErrType},
			{plain, calling, api.ErrName}, {many, side("p : com, q : com", "skip"), api.ErrType}, {plain, many, api.ErrName}, {side("p : com, q : com", "p; p"), side("p : com, q : com", "q"), api.ErrName},
		} {
			before := b.Len()
			if err := b.Add(x.left, x.right); err != x.want {
				t.Errorf("Add of %q and %q: %d; want %d", x.left.Text(), x.right.Text(), err, x.want)
			}
			if b.Len() != before {
				t.Errorf("Add of %q and %q makes %d rules of %d", x.left.Text(), x.right.Text(), b.Len(), before)
			}
		}
		// What is told behind the number of rules.
		for _, x := range []struct {
			left, right *lang.Piece
			want        api.Errno
		}{{calling, plain, api.ErrApart}, {many, calling, api.ErrFull}, {calling, many, api.ErrFull}, {plain, side("p : com", "stop"), api.ErrApart}, {calling, side("p : com", "p; p"), api.ErrApart}} {
			want := x.want
			if b.Len() == api.MaxRules {
				want = api.ErrFull
			}
			before := b.Len()
			if err := b.Add(x.left, x.right); err != want || b.Len() != before {
				t.Errorf("Add of %q and %q: %d, with %d rules of %d; want %d", x.left.Text(), x.right.Text(), err, b.Len(), before, want)
			}
		}
	}
	if err := fullBook(t).Add(plain, plain); err != api.ErrFull {
		t.Errorf("Add to a book that is full: %d", err)
	}
}

// procedures returns a command that runs p, many times: procedures within one another that each call the next one twice.
func procedures(count int) string {
	head, call := "", "p"
	for i := range count {
		name := "t" + string(rune('a'+i))
		head += "proc " + name + "() : com { " + call + "; " + call + " } { "
		call = name
	}
	return head + call + strings.Repeat(" }", count)
}

// P6.1, P6.2: what a side calls is what its declaration binds, wherever it stands; what has the same name is no unknown.
func TestUnknowns(t *testing.T) {
	for _, x := range []struct {
		rule string
		want api.Errno
	}{
		{"com : skip ~ proc p() : com { skip } { p }", api.OK},
		{"com : skip ~ proc p() : com { p } { skip }", api.ErrName},
		{"com : skip ~ proc f(p : com) : com { p } { f({ skip }) }", api.OK},
		{"com : skip ~ proc f(p : com) : com { skip } { f({ p }) }", api.ErrName},
		{"com : skip ~ proc f(p : com) : com { p } { if 0 { p } { skip } }", api.ErrName},
		{"com : skip ~ proc f(x : val) : com { x := 1 } { f(0) }", api.OK},
		{"com : skip ~ new x = 1 { x := x + x }", api.OK},
		{"com : skip ~ new x = x { x := x + 1 }", api.ErrName},
		{"com : skip ~ new x = 0 { if 0 { p } { skip } }", api.ErrName},
		{"com : skip ~ new p = 0 { block q { exit q } }", api.OK},
		{"com : skip ~ block p { if 0 { exit p } { skip } }", api.OK},
		{"com : p ~ proc p() : com { p } { p }", api.OK},
		{"com : p; q ~ proc p() : com { p } { p; q }", api.OK},
		{"exp : 0 ~ 0 * y", api.ErrName},
		{"exp : 0 ~ new x = 0 [ x ]", api.OK},
		{"exp : y * 0 ~ 0 * y", api.OK},
		{"exp : x ~ x + (0 * y)", api.ErrName},
		{"com : stop; p ~ stop", api.OK},
		{"com : stop ~ stop; p", api.ErrName},
	} {
		b := New()
		if err := b.Add(sidesOf(t, x.rule)); err != x.want || b.Len() != slices.Index([]api.Errno{x.want}, api.OK)+1 {
			t.Errorf("Add of %q: %d, with %d rules; want %d", x.rule, err, b.Len(), x.want)
		}
	}
}

// P6.2: the rules of a book, in the order in which they were added.
func TestRule(t *testing.T) {
	b := bookOf(t, "com : skip; p ~ p", "exp : x * 1 ~ x", "com : p ~ p")
	for i, want := range []string{"skip; p ~ p", "x * 1 ~ x", "p ~ p"} {
		left, right, err := b.Rule(i)
		if err != api.OK {
			t.Fatalf("Rule(%d): %d", i, err)
		}
		typ := []string{"com", "exp", "com"}[i]
		wantLeft, wantRight := sidesOf(t, typ+" : "+want)
		if !equalPieces(left, wantLeft) || !equalPieces(right, wantRight) {
			t.Errorf("Rule(%d): %q and %q; want %q", i, left.Text(), right.Text(), want)
		}
	}
	if b.Len() != 3 || New().Len() != 0 {
		t.Errorf("Len: %d and %d", b.Len(), New().Len())
	}
	for _, i := range []int{-1, 3, 4, 1 << 62, -1 << 62} {
		if left, right, err := b.Rule(i); left != nil || right != nil || err != api.ErrNone {
			t.Errorf("Rule(%d): %q, %q, %d", i, left.Text(), right.Text(), err)
		}
	}
	if _, _, err := New().Rule(0); err != api.ErrNone {
		t.Errorf("a rule of a new book: %d", err)
	}
}

// P1: nil and zero values.
func TestNone(t *testing.T) {
	p := mustRead(t, "|- com : skip; skip")
	for _, b := range []*Book{nil, {}} {
		if err := b.Add(p, p); err != api.ErrArg {
			t.Errorf("Add: %d", err)
		}
		if b.Len() != 0 {
			t.Errorf("Len: %d", b.Len())
		}
		for _, i := range []int{-1, 0, 1} {
			if left, right, err := b.Rule(i); left != nil || right != nil || err != api.ErrArg {
				t.Errorf("Rule: %d", err)
			}
			if got, err := b.Apply(i, false, p, 0); got != nil || err != api.ErrArg {
				t.Errorf("Apply: %d", err)
			}
		}
		if got, applied, err := b.Simplify(p); got != nil || len(applied) > 0 || err != api.ErrArg {
			t.Errorf("Simplify: %d", err)
		}
	}
	for _, b := range []*Book{New(), bookOf(t, "com : skip; p ~ p")} {
		for _, none := range []*lang.Piece{nil, {}} {
			for _, i := range []int{-1, 0, 7} {
				if got, err := b.Apply(i, true, none, i); got != nil || err != api.ErrArg {
					t.Errorf("Apply to no piece: %d", err)
				}
			}
			if got, applied, err := b.Simplify(none); got != nil || len(applied) > 0 || err != api.ErrArg {
				t.Errorf("Simplify of no piece: %d", err)
			}
		}
	}
}

// P3: what becomes of pieces later changes no book, and what becomes of results changes neither books nor pieces.
func TestNothingIsShared(t *testing.T) {
	b := New()
	left, right := sidesOf(t, "com : skip; p ~ p")
	b.Add(left, right)
	*left, *right = *mustRead(t, "|- com : stop"), lang.Piece{}
	for range 2 {
		one, other, err := b.Rule(0)
		wantLeft, wantRight := sidesOf(t, "com : skip; p ~ p")
		if err != api.OK || !equalPieces(one, wantLeft) || !equalPieces(other, wantRight) {
			t.Errorf("the rule has become %q and %q", one.Text(), other.Text())
		}
		*one, *other = lang.Piece{}, lang.Piece{}
	}
	p := mustRead(t, "|- com : skip; fault")
	for range 2 {
		got, err := b.Apply(0, false, p, 0)
		if err != api.OK || got.Text() != "|- com : fault" {
			t.Fatalf("Apply: %q, %d", got.Text(), err)
		}
		*got = lang.Piece{}
		got, applied, err := b.Simplify(p)
		if err != api.OK || got.Text() != "|- com : fault" || !slices.Equal(applied, []int{0}) {
			t.Fatalf("Simplify: %q, %v, %d", got.Text(), applied, err)
		}
		*got = lang.Piece{}
		applied[0] = 7
	}
	simple := mustRead(t, "|- com : fault")
	for _, b := range []*Book{b, New()} {
		if got, _, _ := b.Simplify(simple); got == simple || !equalPieces(got, simple) {
			t.Errorf("Simplify of what is simple: %q", got.Text())
		}
	}
}

// P3: rules that are added to a copy of a book are not seen in the book, nor the other way round.
func TestCopiedBook(t *testing.T) {
	b := bookOf(t, "com : skip; p ~ p", "exp : x + 0 ~ x", "com : p; skip ~ p")
	other := *b
	b.Add(sidesOf(t, "exp : x * 1 ~ x"))
	other.Add(sidesOf(t, "exp : x - 0 ~ x"))
	one, _, _ := b.Rule(3)
	two, _, _ := other.Rule(3)
	if !strings.HasSuffix(one.Text(), "x * 1") || !strings.HasSuffix(two.Text(), "x - 0") {
		t.Errorf("the books have the rules %q and %q", one.Text(), two.Text())
	}
}
