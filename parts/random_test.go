package parts

import (
	"math/rand"
	"slices"
	"strings"
	"testing"

	"doppelganger/api"
	"doppelganger/lang"
	"doppelganger/play"
	"doppelganger/tell"
)

// twoPlans makes two plans with the same types: of one module, of one but for a small difference, which may be seen or not, or of any two.
func twoPlans(seed int) (a, b plan) {
	random := rand.New(rand.NewSource(int64(seed)))
	types, depth := sampleTypes(random), random.Intn(5)
	a = sample(int64(seed), types, depth, nil)
	switch random.Intn(5) {
	case 0:
		return a, sample(int64(-seed-1), types, random.Intn(3), nil)
	case 1, 2:
		b = sample(int64(seed), types, depth, random)
		at := random.Intn(len(b.ops))
		b.ops[at] = withOtherDigit(random, b.ops[at])
		return a, b
	}
	return a, sample(int64(seed), types, depth, random)
}

// withOtherDigit returns a text in which a digit, if there is one, is another one.
func withOtherDigit(random *rand.Rand, text string) string {
	var places []int
	for at, r := range text {
		if r >= '0' && r <= '3' {
			places = append(places, at)
		}
	}
	if len(places) == 0 {
		return text
	}
	at := places[random.Intn(len(places))]
	return text[:at] + digits([]int{random.Intn(api.Width)}) + text[at+1:]
}

// readPlan reads the text of a plan. It reports false if a limit is in the way.
func readPlan(t *testing.T, p plan) (*Module, bool) {
	t.Helper()
	text := p.text()
	m, err := Read(text)
	if err == api.ErrFull || len(text) > api.MaxText-100 {
		return nil, false
	}
	if err != api.OK {
		t.Fatalf("Read(%q): %d", text, err)
	}
	return m, true
}

// P7.4, P7.5, P7.6: Same and Relation of random modules against runs of the texts of their operations.
func TestAgainstSecondWay(t *testing.T) {
	count := map[bool]int{}
	pairCount := 0
	for seed := range 3000 {
		a, b := twoPlans(seed)
		pairs, same, ok := related(t, a, b)
		one, okOne := readPlan(t, a)
		other, okOther := readPlan(t, b)
		if !ok || !okOne || !okOther {
			continue
		}
		wantSame(t, one, other, same, api.OK)
		count[same]++
		if !same {
			wantRelation(t, one, other, api.ErrApart)
			continue
		}
		wantRelation(t, one, other, api.OK, pairs...)
		pairCount += len(pairs)
	}
	if count[true] < 1500 || count[false] < 500 || pairCount < 4000 {
		t.Errorf("the modules say little: %v, %d pairs", count, pairCount)
	}
}

// P7.2: the plain text of a random module is read as the same module, and its operations are those that it was made with.
func TestRandomTexts(t *testing.T) {
	for seed := range 2000 {
		random := rand.New(rand.NewSource(int64(seed)))
		p := sample(int64(seed), sampleTypes(random), random.Intn(5), random)
		m, ok := readPlan(t, p)
		if !ok || len(m.Text()) > api.MaxText-100 {
			continue
		}
		if again := mustRead(t, m.Text()); again.Text() != m.Text() || mustPiece(t, again).Text() != mustPiece(t, m).Text() {
			t.Errorf("%q is read as %q", m.Text(), again.Text())
		}
		for i, decl := range m.Operations() {
			if decl.Result != p.types[i] || len(decl.Args) > 0 {
				t.Errorf("operation %d of %q: %v", i, m.Text(), decl)
			}
		}
		if got := mustPiece(t, m); !slices.EqualFunc(got.Nodes(), readPiece(t, p.piece()).Nodes(), sameNode) {
			t.Errorf("Piece of %q: %q", m.Text(), got.Text())
		}
	}
}

// piece returns the text of the piece of P7.3.
func (p plan) piece() string {
	var words, args []string
	for i, typ := range p.types {
		word, left, right := spelling(typ)
		words = append(words, word)
		if typ == api.Exp {
			left, right = "", ""
		}
		args = append(args, left+p.ops[i]+right)
	}
	text := "client(" + strings.Join(args, ", ") + ")"
	for i, name := range slices.Backward(p.vars) {
		text = "new " + name + " = " + digits(p.values[i:i+1]) + " { " + text + " }"
	}
	return "client(" + strings.Join(words, ", ") + ") : com |- com : " + text
}

func sameNode(a, b api.Node) bool {
	return a.Kind == b.Kind && a.Type == b.Type && a.Name == b.Name && a.Value == b.Value && slices.Equal(a.Params, b.Params) && a.Result == b.Result && slices.Equal(a.Kids, b.Kids)
}

// anyClient makes a random client: a context for pieces of modules. Its variables have names that modules have, too.
func anyClient(random *rand.Rand, types []api.Type) string {
	m := &maker{Rand: random, vars: []string{"x"}}
	var params []string
	for i, typ := range types {
		word, _, _ := spelling(typ)
		name := "o" + string("abc"[i])
		params = append(params, name+" : "+word)
		m.calls = append(m.calls, api.Decl{Name: name, Result: typ})
	}
	body := m.term(api.Com, 2+random.Intn(4))
	return "hole : com |- com : new x = 0 { proc client(" + strings.Join(params, ", ") + ") : com { " + body + " } { hole" + m.pick("", "; hole") + " } }"
}

// served returns what comes of a client with a module. It reports false if a limit is in the way.
func served(t *testing.T, client *lang.Piece, m *Module) (api.Result, bool) {
	t.Helper()
	whole, err := lang.Fill(client, mustPiece(t, m))
	if err == api.ErrFull {
		return 0, false
	}
	if err != api.OK {
		t.Fatalf("Fill of %q with the piece of %q: %d", client.Text(), m.Text(), err)
	}
	result, _, _, err := play.Run(whole)
	return result, err == api.OK
}

// T8: with modules that are the same every client comes to the same result; with others the witness for their pieces, whose hole is served by its client, does not.
func TestClients(t *testing.T) {
	results := map[api.Result]int{}
	told, shown := 0, 0
	for seed := range 2000 {
		a, b := twoPlans(seed)
		one, okOne := readPlan(t, a)
		other, okOther := readPlan(t, b)
		if !okOne || !okOther {
			continue
		}
		same, err := Same(one, other)
		if err != api.OK {
			continue
		}
		random := rand.New(rand.NewSource(int64(seed)))
		for range 10 {
			text := anyClient(random, a.types)
			client, err := lang.Read(text)
			if err == api.ErrFull || len(text) > api.MaxText {
				continue
			}
			if err != api.OK {
				t.Fatalf("no client: %d, %q", err, text)
			}
			first, okFirst := served(t, client, one)
			second, okSecond := served(t, client, other)
			switch {
			case !okFirst || !okSecond:
			case same && first != second:
				t.Errorf("%q and %q are told apart by %q", one.Text(), other.Text(), text)
			case same:
				results[first]++
			case first != second:
				told++
			}
		}
		if !same {
			shown += shownApart(t, one, other)
		}
	}
	if results[api.Done] < 4000 || results[api.Never] < 2000 || results[api.Faulted] < 1000 || told < 500 || shown < 300 {
		t.Errorf("the clients say little: %v, %d, %d", results, told, shown)
	}
}

// shownApart checks that the witness for the pieces of two modules shows that they are apart. It returns 0 if a limit is in the way.
func shownApart(t *testing.T, a, b *Module) int {
	t.Helper()
	client, err := tell.Witness(mustPiece(t, a), mustPiece(t, b))
	if err != api.OK {
		t.Fatalf("no witness for %q and %q: %d", a.Text(), b.Text(), err)
	}
	first, okFirst := served(t, client, a)
	second, okSecond := served(t, client, b)
	if !okFirst || !okSecond {
		return 0
	}
	if first == second {
		t.Errorf("%q does not tell %q and %q apart", client.Text(), a.Text(), b.Text())
	}
	return 1
}
