package lang

import (
	"math/rand"
	"strings"
	"testing"

	"doppelganger/api"
)

// P1.1: what is by the grammar, and what is not.
func TestGrammar(t *testing.T) {
	for _, text := range []string{
		"|- com : skip", "|-com:skip", "\t|-\ncom :\n\tskip ", " |- exp : 3",
		"|- com : skip; stop; fault", "|- exp : stop", "|- exp : fault",
		"|- com : if1{skip}{skip}", "|- exp : if 1[2][3]*2", "|- com : while 0 { skip }",
		"|- com : new x = 0 { x := x }", "|- exp : new x=1[x]", "|- com : block k { exit k }", "|- exp : do { skip } [ 1 ]",
		"|- exp : do { block k { exit k } } [ 1 ] == 2 + 1 * 3", "|- exp : (((1)))",
		"a : com, b : exp, c(com) : com, d(com, exp, val) : exp |- com : a",
		"abcdefgh : com |- com : abcdefgh", "hole : com |- com : hole", "skips : com |- com : skips", "comexp : com |- com : comexp",
		"f(com, exp, val) : com |- com : f({ skip }, 1, 2)", "f ( com ) : com |- com : f ( { skip } )",
		"|- com : proc f() : com { skip } { f }", "|- exp : proc f() : com { skip } [ 1 ]", "|- com : proc f() : exp [ 1 ] { skip }",
		"|- com : proc f(a : com, b : exp, c : val) : com { a } { f({ skip }, 1, 2) }",
		"|- com : proc f(f : com) : com { f } { f({ skip }) }",
		"|- exp : 1 - 1 - 1 + 1 * 2 * 3 < (1 < 2)", "|- exp : (1==2)==3",
	} {
		wantRead(t, text, api.OK)
	}
	for _, text := range []string{
		"", " ", "|-", "|- com", "|- com :", "com : skip", "|- : skip", "|- com skip", "|- val : 1", "|- com : skip |- com : skip",
		"|- com : 1", "|- exp : skip", "|- com : skip;", "|- com : ; skip", "|- com : skip skip", "|- com : skip, skip", "|- com : { skip }", "|- com : (skip)",
		"|- exp : 4", "|- exp : 9", "|- exp : 12", "|- exp : 1 2", "|- exp : 1x", "|- exp : -1", "|- exp : 1 +", "|- exp : * 1", "|- exp : 1 + + 1", "|- exp : ()", "|- exp : (1", "|- exp : 1)",
		"|- exp : 1 < 2 < 3", "|- exp : 1 == 2 == 3", "|- exp : 1 == 2 < 3", "|- exp : 1 = 2", "|- exp : 1 = = 2", "|- exp : 1 === 2", "|- exp : 1 > 2", "|- exp : 1 != 2", "|- exp : 1 / 2",
		"|- com : new x = 0 { x : = 1 }", "|- com : new x = 0 { x = 1 }", "|- com : new x := 0 { skip }", "|- com : new x == 0 { skip }", "|- com : new x { skip }", "|- com : new x = 0 [ 1 ]", "|- exp : new x = 0 { skip }", "|- com : new = 0 { skip }",
		"| - com : skip", "- com : skip", "|| - com : skip", "|-- com : skip",
		"|- com : if 1 { skip }", "|- com : if 1 [ 2 ] [ 3 ]", "|- exp : if 1 { skip } { skip }", "|- com : if { skip } { skip }", "|- exp : while 1 [ 1 ]", "|- com : while 1 { }", "|- com : while { skip }",
		"|- exp : do { skip }", "|- exp : do [ 1 ] { skip }", "|- com : do { skip } [ 1 ]", "|- exp : block k { skip }", "|- exp : block k [ 1 ]", "|- com : block { skip }", "|- com : block k", "|- com : block k { exit }", "|- com : block k { exit k k }",
		"p : com, |- com : p", ", p : com |- com : p", "p : com q : com |- com : p", "p com |- com : p", "p : val |- com : p", "p : foo |- com : p", "f() : com |- com : f", "f(com,) : com |- com : skip", "f(com exp) : com |- com : skip", "f(foo) : com |- com : skip", "f(com : com |- com : skip",
		"f(com) : com |- com : f()", "f(com) : com |- com : f({ skip }", "f(com) : com |- com : f({ skip },)", "f(com) : com |- com : f(skip)", "f(com) : com |- com : f({ 1 })", "f(exp) : com |- com : f([ 1 ])", "f(com) : com |- com : f{ skip }",
		"|- com : proc f { skip } { f }", "|- com : proc f() { skip } { f }", "|- com : proc f() : val [ 1 ] { skip }", "|- com : proc f() : com [ 1 ] { skip }", "|- com : proc f() : exp { skip } { skip }", "|- exp : proc f() : com { skip } { skip }", "|- com : proc f() : com { skip }", "|- com : proc f(a) : com { skip } { skip }", "|- com : proc f(a : com,) : com { skip } { skip }", "|- com : proc f(a : foo) : com { skip } { skip }", "|- com : proc () : com { skip } { skip }",
		"|- com : Skip", "|- com : skip\r", "|- com : skip\x00", "|- com : sk\u00efp", "|- com : \xff", "|- com : skip.", "|- com : skip # end", "|- com : x_y := 1", "x1 : com |- com : skip", "|- com : skip\v", "\ufeff|- com : skip", "|- com : skip\u00a0",
	} {
		wantRead(t, text, api.ErrForm)
	}
}

// P1.1: the limits of a text, of names, and of numbers of things.
func TestGrammarLimits(t *testing.T) {
	exact := "|- com : skip"
	exact += strings.Repeat(" ", api.MaxText-len(exact))
	wantRead(t, exact, api.OK)
	wantRead(t, exact+" ", api.ErrForm)
	wantRead(t, strings.Repeat("x", api.MaxText*3), api.ErrForm)
	wantRead(t, "abcdefgh : com |- com : skip", api.OK)
	wantRead(t, "abcdefghi : com |- com : skip", api.ErrForm)
	wantRead(t, "|- com : abcdefghi", api.ErrForm)
	wantRead(t, "a : com, b : com, c : com, d : com |- com : skip", api.OK)
	wantRead(t, "a : com, b : com, c : com, d : com, e : com |- com : skip", api.ErrForm)
	wantRead(t, "a : com, a : com |- com : skip", api.ErrForm)
	wantRead(t, "a : com, b : com, a(val) : exp |- com : skip", api.ErrForm)
	wantRead(t, "f(com, com, com, com) : com |- com : skip", api.ErrForm)
	wantRead(t, "|- com : f(1, 2, 3)", api.ErrName)
	wantRead(t, "|- com : f(1, 2, 3, 0)", api.ErrForm)
	wantRead(t, "|- com : proc f(a : com, b : com, c : com) : com { skip } { skip }", api.OK)
	wantRead(t, "|- com : proc f(a : com, b : com, c : com, d : com) : com { skip } { skip }", api.ErrForm)
	wantRead(t, "|- com : proc f(a : com, b : com, a : val) : com { skip } { skip }", api.ErrForm)
	for _, word := range reserved() {
		for _, text := range []string{"# : com |- com : skip", "|- com : # := 1", "|- com : new # = 0 { skip }", "|- com : proc #() : com { skip } { skip }", "|- com : proc f(# : com) : com { skip } { skip }", "|- com : block # { skip }", "|- com : exit #"} {
			wantRead(t, strings.Replace(text, "#", word, 1), api.ErrForm)
		}
	}
}

func reserved() []string {
	return strings.Fields("skip stop fault if while new proc block exit do com exp val")
}

// rules is the grammar of the document: alternatives, of words in their order; * stands behind what may come as often as it likes.
const rules = `
piece = |- result2 / decl decls* |- result2
decls = , decl
result2 = com : coms / exp : exps
decl = name : result / name ( type types* ) : result
types = , type
result = com / exp
type = com / exp / val
coms = step steps*
steps = ; step
step = skip / stop / fault / name := exps / call / if exps { coms } { coms } / while exps { coms } / new name = exps { coms } / proc head { coms } / block name { coms } / exit name
exps = sum / sum == sum / sum < sum
sum = product sums*
sums = + product / - product
product = atom atoms*
atoms = * atom
atom = 0 / 1 / 2 / 3 / name / call / stop / fault / ( exps ) / if exps [ exps ] [ exps ] / do { coms } [ exps ] / new name = exps [ exps ] / proc head [ exps ] / exit name
call = name / name ( arg args* )
args = , arg
arg = { coms } / exps
head = name ( ) : body / name ( name : type params* ) : body
params = , name : type
body = com { coms } / exp [ exps ]
`

// matcher finds where what a rule describes may end, for parts that begin at a place.
type matcher struct {
	rules map[string][][]string
	parts []string
	known map[matched]map[int]bool
}

type matched struct {
	rule string
	at   int
}

func newMatcher() *matcher {
	m := &matcher{rules: map[string][][]string{}}
	for _, line := range strings.Split(strings.TrimSpace(rules), "\n") {
		name, right, _ := strings.Cut(line, " = ")
		for _, choice := range strings.Split(right, " / ") {
			m.rules[name] = append(m.rules[name], strings.Fields(choice))
		}
	}
	return m
}

func (m *matcher) whole(parts []string) bool {
	m.parts, m.known = parts, map[matched]map[int]bool{}
	return m.ends("piece", 0)[len(parts)]
}

func (m *matcher) ends(rule string, at int) map[int]bool {
	key := matched{rule, at}
	if ends, ok := m.known[key]; ok {
		return ends
	}
	ends := map[int]bool{}
	m.known[key] = ends
	for _, choice := range m.rules[rule] {
		for end := range m.row(choice, at) {
			ends[end] = true
		}
	}
	return ends
}

func (m *matcher) row(words []string, at int) map[int]bool {
	now := map[int]bool{at: true}
	for _, word := range words {
		next := map[int]bool{}
		rule, many := strings.CutSuffix(word, "*")
		many = many && rule != ""
		for place := range now {
			for end := range m.word(rule, word, many, place) {
				next[end] = true
			}
		}
		now = next
	}
	return now
}

func (m *matcher) word(rule, word string, many bool, at int) map[int]bool {
	switch {
	case many:
		all := map[int]bool{at: true}
		for waiting := []int{at}; len(waiting) > 0; waiting = waiting[1:] {
			for end := range m.ends(rule, waiting[0]) {
				if !all[end] {
					all[end] = true
					waiting = append(waiting, end)
				}
			}
		}
		return all
	case word == "name":
		if at < len(m.parts) && m.parts[at] >= "a" && m.parts[at] < "{" && !strings.Contains(" "+strings.Join(reserved(), " ")+" ", " "+m.parts[at]+" ") {
			return map[int]bool{at + 1: true}
		}
		return nil
	case m.rules[word] != nil:
		return m.ends(word, at)
	case at < len(m.parts) && m.parts[at] == word:
		return map[int]bool{at + 1: true}
	}
	return nil
}

// broken returns the parts of a text by the grammar, of which some are changed, left out or put in. No comma and no name that is there is put in: so the numbers of things, of which the rules tell nothing, stay right.
func broken(r *rand.Rand, text string) []string {
	for _, mark := range []string{"(", ")", "{", "}", "[", "]", ",", ";"} {
		text = strings.ReplaceAll(text, mark, " "+mark+" ")
	}
	parts := strings.Fields(text)
	for i := range r.Intn(3) {
		other := append(strings.Fields(":= : == = |- { } [ ] ( ) ; < + - * 0 3"), []string{"y", "z"}[i])
		other = append(other, reserved()...)
		at := r.Intn(len(parts))
		switch r.Intn(3) {
		case 0:
			parts[at] = other[r.Intn(len(other))]
		case 1:
			parts = append(parts[:at], parts[at+1:]...)
		case 2:
			parts = append(parts[:at], append([]string{other[r.Intn(len(other))]}, parts[at:]...)...)
		}
	}
	return parts
}

// P1.1: Read finds the form of a text as the grammar has it.
func TestGrammarOracle(t *testing.T) {
	r := rand.New(rand.NewSource(1))
	m := newMatcher()
	counts := map[bool]int{}
	for seed := range int64(4000) {
		decls, typ, nodes := sample(seed)
		parts := broken(r, spell(decls, typ, nodes))
		text := strings.Join(parts, []string{" ", "\n", "\t "}[r.Intn(3)])
		if len(text) > api.MaxText {
			continue
		}
		_, err := Read(text)
		want := m.whole(parts)
		if want == (err == api.ErrForm) {
			t.Fatalf("Read(%q): %d; by the grammar: %v", text, err, want)
		}
		counts[want]++
	}
	if counts[true] < 500 || counts[false] < 500 {
		t.Errorf("too few of a sort: %v", counts)
	}
}
