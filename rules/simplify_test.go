package rules

import (
	"slices"
	"strings"
	"testing"

	"doppelganger/api"
	"doppelganger/lang"
)

// wantSimplify checks what comes of a piece, from its plain text, and by which rules.
func wantSimplify(t *testing.T, b *Book, p *lang.Piece, want string, wantApplied ...int) {
	t.Helper()
	before := p.Text()
	got, applied, err := b.Simplify(p)
	if err != api.OK || got.Text() != want || !equalPieces(got, mustRead(t, want)) || !slices.Equal(applied, wantApplied) {
		t.Errorf("Simplify of %q: %q, %v, %d; want %q, %v", before, got.Text(), applied, err, want, wantApplied)
	}
	if p.Text() != before {
		t.Errorf("%q has become %q", before, p.Text())
	}
	if err == api.OK {
		wantSame(t, p, got)
	}
}

// P6.5: the first node at which a rule makes the piece smaller, and there the first such rule, again and again.
func TestSimplify(t *testing.T) {
	for _, x := range []struct {
		rules       []string
		piece, want string
		applied     []int
	}{
		{nil, "|- com : skip; skip", "", nil},
		{[]string{"com : skip; p ~ p"}, "|- com : skip", "", nil},
		{[]string{"com : skip; p ~ p"}, "|- exp : 1 + 1", "", nil},
		{[]string{"com : skip; p ~ p"}, "q : com, a : com |- com : skip; skip; a; q", "a : com, q : com |- com : a; q", []int{0, 0}},
		// Of two rules at one node the first one, even if the second one makes it smaller still.
		{[]string{"com : skip; p ~ p", "com : skip; if 1 { p } { p } ~ p"}, "|- com : skip; if 1 { stop } { stop }", "|- com : if 1 { stop } { stop }", []int{0}},
		{[]string{"com : skip; if 1 { p } { p } ~ p", "com : skip; p ~ p"}, "|- com : skip; if 1 { stop } { stop }", "|- com : stop", []int{0}},
		{[]string{"com : p; stop; q ~ p; stop", "com : skip; p ~ p"}, "|- com : skip; stop; fault", "|- com : stop", []int{0, 1}},
		{[]string{"exp : x * 1 ~ x", "exp : x * 1 ~ 1 * x"}, "|- exp : 2 * 1", "|- exp : 2", []int{0}},
		{[]string{"exp : x * 1 ~ 1 * x", "exp : x * 1 ~ x"}, "|- exp : 2 * 1", "|- exp : 2", []int{1}},
		// Of two nodes the first one, even if its rule is a later one; and a node further ahead may come to fit later.
		{[]string{"com : skip; p ~ p", "com : if 1 { p } { q } ~ p"}, "|- com : if 1 { skip; stop } { skip; skip }", "|- com : stop", []int{1, 0}},
		{[]string{"com : skip; p ~ p", "com : if 1 { p } { p } ~ p"}, "|- com : if 1 { skip; skip; stop } { skip; stop }", "|- com : stop", []int{0, 1, 0}},
		{[]string{"com : skip; p ~ p", "com : if 1 { p } { p } ~ p"}, "|- com : if 1 { skip; stop } { stop; skip }", "|- com : if 1 { stop } { stop; skip }", []int{0}},
		// A rule that may make a piece greater is applied where it makes it smaller.
		{[]string{"com : p ~ skip; p"}, "|- com : stop", "", nil},
		{[]string{"com : p; skip ~ skip; p", "com : skip; p ~ p"}, "|- com : stop; skip", "", nil},
		{[]string{"com : proc f(c : com) : com { c; c } { f({ p }) } ~ p; p"}, "|- com : proc f(c : com) : com { c; c } { f({ stop }) }", "|- com : stop; stop", []int{0}},
		{[]string{"com : proc f(c : com) : com { c; c } { f({ p }) } ~ p; p"}, "|- com : proc f(c : com) : com { c; c } { f({ block k { stop; stop } }) }", "", nil},
		{[]string{"com : proc f(c : com) : com { c; c } { f({ p }) } ~ p; p"}, "|- com : proc f(c : com) : com { c; c } { f({ stop; stop }) }", "|- com : stop; stop; stop; stop", []int{0}},
		// Rules that do not fit are passed over.
		{[]string{"com : new a = 0 { p } ~ p"}, "|- com : new a = 0 { new a = 0 { a := 1; new a = 0 { skip } } }", "|- com : new a = 0 { a := 1; skip }", []int{0, 0}},
		// From right to left nothing is done.
		{[]string{"com : p ~ skip; p"}, "|- com : skip; skip; skip", "", nil},
	} {
		if x.want == "" {
			x.want = mustRead(t, x.piece).Text()
		}
		wantSimplify(t, bookOf(t, x.rules...), mustRead(t, x.piece), x.want, x.applied...)
	}
}

// P6.5: a rule that would make a piece nest too deep is not applied, though the piece would be smaller.
func TestSimplifyTooDeep(t *testing.T) {
	b := bookOf(t, "com : p; skip; skip ~ block k { block l { p } }", "com : skip; skip; p ~ p", "com : p; skip; skip ~ skip; p")
	row := "skip; skip; stop; skip; skip"
	for _, x := range []struct {
		blocks  int
		want    string
		applied []int
	}{
		{api.MaxNest - 4, "block k { block l { stop } }", []int{0, 1}},
		{api.MaxNest - 3, "skip; stop", []int{2, 1}},
		{api.MaxNest - 2, "skip; stop", []int{2, 1}},
	} {
		p := mustRead(t, "|- com : "+nested(x.blocks, row))
		wantSimplify(t, b, p, "|- com : "+nested(x.blocks, x.want), x.applied...)
	}
}

// P6.5: a long row comes to its end, step by step.
func TestSimplifyLong(t *testing.T) {
	count := api.MaxNodes / 2
	for _, x := range []struct {
		rules []string
		each  int
	}{
		{[]string{"com : skip; p ~ p"}, 0},
		{[]string{"com : p ~ skip; p", "com : p ~ p", "com : p; skip ~ p"}, 2},
	} {
		wantSimplify(t, bookOf(t, x.rules...), mustRead(t, "|- com : "+skips(count)), "|- com : skip", slices.Repeat([]int{x.each}, count-1)...)
	}
	b := New()
	for i := range api.MaxRules {
		b.Add(sidesOf(t, "com : p; "+skips(i+1)+" ~ p; "+skips(i+2)))
	}
	p := mustRead(t, "|- com : "+strings.Repeat("skip; ", count-1)+"stop")
	wantSimplify(t, b, p, p.Text())
}
