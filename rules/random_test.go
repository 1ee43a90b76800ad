package rules

import (
	"math/rand"
	"slices"
	"testing"

	"doppelganger/api"
	"doppelganger/lang"
)

// outside are the declarations of random pieces. Their names are those of unknowns too.
func outside() []api.Decl {
	return []api.Decl{{Name: "p"}, {Name: "x", Result: api.Exp}, {Name: "f", Args: []api.Type{api.Com}}, {Name: "a", Args: []api.Type{api.Exp, api.Val}, Result: api.Exp}}
}

// anyRule makes a random pair of sides, that mostly are not the same; mostly it binds something around an unknown.
func anyRule(random *rand.Rand) rule {
	decls := []api.Decl{{Name: "p"}, {Name: "q"}, {Name: "x", Result: api.Exp}}
	typ := api.Type(random.Intn(2))
	m := &maker{Rand: random}
	for {
		left, right := m.piece(decls, typ, 1+random.Intn(3)), m.piece(decls, typ, 1+random.Intn(3))
		if left == nil || right == nil {
			continue
		}
		bound := 0
		for _, names := range newSide(left).around {
			bound += len(names)
		}
		if bound > 0 || random.Intn(4) == 0 {
			return rule{*left, *right}
		}
	}
}

// P6.3, P6.4: Apply, of all rules at all nodes, both ways, against a second way to do it. What it takes for a rule need not be one here, as sameness does not matter to how rules are applied.
func TestAgainstSecondWay(t *testing.T) {
	count := map[refusal]int{}
	for seed := range 4000 {
		random := rand.New(rand.NewSource(int64(seed)))
		b := New()
		m := &maker{Rand: random}
		for range 3 {
			r := anyRule(random)
			b.rules = append(b.rules, r)
			m.use(r)
		}
		p := m.piece(outside(), api.Type(random.Intn(2)), 1+random.Intn(3))
		if p == nil || len(p.Nodes()) > 60 {
			continue
		}
		for i, r := range b.rules {
			for node := range p.Nodes() {
				count[compare(t, b, i, false, &r.left, &r.right, p, node)]++
				count[compare(t, b, i, true, &r.right, &r.left, p, node)]++
			}
		}
	}
	if count[accepted] < 3000 || count[misfit] < 3000 || count[unequal] < 300 || count[captured] < 300 || count[unanswered] < 3000 {
		t.Errorf("the pieces and rules say little: %v", count)
	}
}

// compare applies a rule in both ways.
func compare(t *testing.T, b *Book, i int, back bool, from, to, p *lang.Piece, node int) refusal {
	t.Helper()
	whole, why := apply(from, to, p, node)
	want, wantErr := (*lang.Piece)(nil), api.ErrApart
	if why == accepted {
		want, wantErr = lang.Build(p.Decls(), p.Type(), whole.nodes(nil))
	}
	got, err := b.Apply(i, back, p, node)
	if err != wantErr || (got == nil) != (want == nil) || got != nil && !equalPieces(got, want) {
		t.Errorf("%q ~ %q applied to %q at node %d: %q, %d; want %q, %d", from.Text(), to.Text(), p.Text(), node, got.Text(), err, want.Text(), wantErr)
	}
	return why
}

// laws are rules for commands and expressions, with all that binds names.
func laws() []string {
	return []string{
		"com : skip; p ~ p", "com : p; skip ~ p", "com : stop; p ~ stop", "com : fault; p ~ fault", "com : if 0 { p } { q } ~ q", "com : if 2 { p } { q } ~ p",
		"com : if x { p } { p } ~ new a = x { p }", "com : while 0 { p } ~ skip", "com : while x { p } ~ if x { p; while x { p } } { skip }", "com : while 1 { p } ~ block k { while 1 { p } }",
		"com : new a = 0 { p } ~ p", "com : block k { p } ~ p", "com : block k { p; exit k; q } ~ p", "com : block k { new a = x { exit k } } ~ new b = x { skip }",
		"com : proc f() : com { p } { f; f } ~ p; p", "com : proc f(p : com) : com { p; p } { f({ q }) } ~ q; q", "com : proc p() : com { p } { p; q } ~ p; q",
		"com : proc f(a : val) : com { if a { p } { q } } { f(x) } ~ if x { p } { q }", "com : new a = 1 { while a { p; a := 0 } } ~ p", "com : if x { p } { q } ~ if x == 0 { q } { p }",
		"exp : x + 0 ~ x", "exp : x * 1 ~ x", "exp : 0 * x ~ x * 0", "exp : new a = x [ a + a ] ~ x * 2", "exp : do { skip } [ x ] ~ x", "exp : do { p; q } [ x ] ~ do { p } [ do { q } [ x ] ]",
		"exp : if x [ y ] [ y ] ~ new a = x [ y ]", "exp : new a = x [ new b = y [ b + a ] ] ~ x + y", "exp : do { p } [ x ] + y ~ do { p } [ x + y ]", "exp : do { p } [ stop ] ~ do { p; stop } [ 0 ]",
		"exp : proc a(b : val, x : exp) : exp [ b - x ] [ a(x, y) ] ~ x - y", "exp : x < 0 ~ x * 0",
	}
}

// lawful makes a random piece in which rules of a book can be applied.
func lawful(random *rand.Rand, b *Book) *lang.Piece {
	m := &maker{Rand: random}
	for _, r := range b.rules {
		m.use(r)
	}
	for {
		p := m.piece(outside(), api.Type(random.Intn(2)), 1+random.Intn(3))
		if p != nil && len(p.Nodes()) <= 60 {
			return p
		}
	}
}

// someLaws returns a book of some laws, and which ones these are.
func someLaws(random *rand.Rand, all *Book, count int) (b *Book, laws []int) {
	b = New()
	for range count {
		law := random.Intn(all.Len())
		laws = append(laws, law)
		b.rules = append(b.rules, all.rules[law])
	}
	return b, laws
}

// P6.6 (T7): what Apply returns is the same as the piece.
func TestAppliedIsSame(t *testing.T) {
	all := bookOf(t, laws()...)
	count := make([]int, all.Len())
	for seed := range 2500 {
		random := rand.New(rand.NewSource(int64(seed)))
		b, laws := someLaws(random, all, 3)
		p := lawful(random, b)
		for node := range p.Nodes() {
			for i, law := range laws {
				for _, back := range []bool{false, true} {
					// Rules that fit everywhere need not be tried everywhere.
					got, err := b.Apply(i, back, p, node)
					if err == api.OK && count[law] < 100 && wantSame(t, p, got) {
						count[law]++
					}
				}
			}
		}
	}
	if slices.Min(count) < 20 {
		t.Errorf("some laws are hardly applied: %v", count)
	}
}

// P6.5, P6.6: Simplify against what Apply comes to, step by step.
func TestSimplifyStepByStep(t *testing.T) {
	all := bookOf(t, laws()...)
	steps := 0
	for seed := range 2500 {
		random := rand.New(rand.NewSource(int64(seed)))
		b, _ := someLaws(random, all, random.Intn(8))
		p := lawful(random, b)
		want, wantApplied := stepByStep(b, p)
		got, applied, err := b.Simplify(p)
		if err != api.OK || !equalPieces(got, want) || !slices.Equal(applied, wantApplied) {
			t.Errorf("Simplify of %q: %q, %v, %d; want %q, %v", p.Text(), got.Text(), applied, err, want.Text(), wantApplied)
			continue
		}
		steps += len(applied)
		wantSame(t, p, got)
	}
	if steps < 1000 {
		t.Errorf("only %d steps", steps)
	}
}

// stepByStep simplifies a piece with Apply alone.
func stepByStep(b *Book, p *lang.Piece) (*lang.Piece, []int) {
	var applied []int
next:
	for {
		for node := range p.Nodes() {
			for i := range b.Len() {
				smaller, err := b.Apply(i, false, p, node)
				if err == api.OK && len(smaller.Nodes()) < len(p.Nodes()) {
					p = smaller
					applied = append(applied, i)
					continue next
				}
			}
		}
		return p, applied
	}
}
