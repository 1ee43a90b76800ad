package moves

import (
	"slices"
	"strings"
	"testing"

	"doppelganger/api"
	"doppelganger/lang"
)

// padded returns a command whose unfolded term has some more nodes than that of the last one in its row. It binds the names pada and padb.
func padded(more int, last string) string {
	const perA, perB = 100, 1400 // what a call adds, with its Seq
	row := ""
	if more%2 == 1 {
		row += "if 0 { skip } { skip }; "
		more -= 5
	}
	row += strings.Repeat("padb; ", more/perB)
	more %= perB
	row += strings.Repeat("pada; ", more/perA)
	more %= perA
	row += strings.Repeat("skip; ", more/2)
	a := "proc pada() : com { skip" + strings.Repeat("; skip", 49) + " } "
	b := "proc padb() : com { pada" + strings.Repeat("; pada", 13) + " } "
	return a + "{ " + b + "{ " + row + last + " } }"
}

// wantSize checks how many nodes the unfolded term of a command has: so many that some others still fit in, and no more.
func wantSize(t *testing.T, decls, command string, size int) {
	t.Helper()
	for more, want := range map[int]api.Errno{api.MaxInner - size: api.OK, api.MaxInner - size + 1: api.ErrFull} {
		p := mustRead(t, decls+" |- com : "+padded(more, command))
		wantPlay(t, p, nil, false, want)
	}
}

// P4.4, P4.8: what the unfolded term consists of.
func TestUnfoldedSizes(t *testing.T) {
	const decls = "f(com, val, exp) : com, p : com, x : exp"
	for command, want := range map[string]int{
		"skip": 1, "stop": 1, "fault": 1, "p": 1, "p; p": 3, "skip; skip; skip": 5,
		"if x { skip } { p; p }":               6,
		"while x { skip }":                     3,
		"new a = 1 { a := a + 2 }":             6,
		"block k { exit k }":                   2,
		"f({ p; p }, x, do { skip } [ 1 ])":    8,
		"block k { f({ exit k }, 0, exit k) }": 5,
		// A procedure is nothing by itself; each call is its body.
		"proc q() : com { p; p; p } { skip }":          1,
		"proc q() : com { p; p; p } { q }":             5,
		"proc q() : com { p; p; p } { q; q }":          11,
		"proc q() : exp [ x + 1 ] { new a = q { p } }": 5,
		// An argument stands wherever it is called, or nowhere.
		"proc q(a : com) : com { skip } { q({ p; p; p }) }":               1,
		"proc q(a : com) : com { a } { q({ p; p; p }) }":                  5,
		"proc q(a : com) : com { a; a } { q({ p; p; p }) }":               11,
		"proc q(a : exp) : com { if a { skip } { skip } } { q(x + x) }":   6,
		"proc q(a : com) : com { a; a } { q({ q({ q({ skip }) }) }) }":    15,
		"proc q(a : com) : com { f({ a }, 1, x) } { q({ q({ skip }) }) }": 7,
		// For each argument by value there is a New, with the argument, whether the body reads it or not.
		"proc q(a : val) : com { skip } { q(1) }":                                                           3,
		"proc q(a : val) : com { skip } { q(1 + x) }":                                                       5,
		"proc q(a : val, b : com, c : val) : com { b } { q(1, { skip; p }, 2) }":                            7,
		"proc q(a : val, b : val, c : val) : com { a := b } { q(1, 2, x + x) }":                             10,
		"proc q(a : val) : com { skip } { proc r(b : val) : com { q(b) } { r(1) } }":                        5,
		"proc q(a : val, b : com) : com { b } { proc r(c : com) : com { q(1, { c }) } { r({ skip; p }) } }": 5,
		// What is never run is there, too.
		"stop; if 0 { p; p } { skip }": 8,
	} {
		wantSize(t, decls, command, want)
	}
}

// reference is a second way through an unfolded term, by functions that call themselves.
type reference struct {
	nodes  []api.Node
	size   int
	beyond bool // the border
}

// meant is what a name stands for.
type meant struct {
	outer *meant
	name  string
	depth int // of a label: how many arguments of declared names are around its block
	walk  func(around []string, args []func(around []string))
}

func (m *meant) find(name string) *meant {
	for m.name != name {
		m = m.outer
	}
	return m
}

// walkThrough walks through the unfolded term of a piece.
func walkThrough(p *lang.Piece) *reference {
	r := &reference{nodes: p.Nodes()}
	var names *meant
	for _, decl := range p.Decls() {
		names = &meant{outer: names, name: decl.Name, walk: func(around []string, args []func([]string)) {
			r.size++
			for i, arg := range args {
				if decl.Args[i] == api.Val {
					arg(around)
				} else {
					arg(append(slices.Clone(around), decl.Name+string(rune('0'+i))))
				}
			}
		}}
	}
	r.walk(0, names, nil)
	return r
}

func (r *reference) walk(at int, names *meant, around []string) {
	n := r.nodes[at]
	switch n.Kind {
	case api.Proc:
		r.walk(n.Kids[1], &meant{outer: names, name: n.Name, walk: r.calling(n, names)}, around)
		return
	case api.Call:
		var args []func([]string)
		for _, kid := range n.Kids {
			args = append(args, func(around []string) { r.walk(kid, names, around) })
		}
		names.find(n.Name).walk(around, args)
		return
	case api.Exit:
		depth := names.find(n.Name).depth
		for _, left := range around[depth:] {
			r.beyond = r.beyond || slices.Contains(around[:depth], left)
		}
	}
	r.size++
	inner := &meant{outer: names, name: n.Name, depth: len(around)}
	for turn, kid := range n.Kids {
		if n.Kind == api.Block || n.Kind == api.New && turn == 1 {
			r.walk(kid, inner, around)
		} else {
			r.walk(kid, names, around)
		}
	}
}

func (r *reference) calling(n api.Node, names *meant) func(around []string, args []func([]string)) {
	return func(around []string, args []func([]string)) {
		inner := names
		for i, param := range n.Params {
			inner = &meant{outer: inner, name: param.Name, walk: func(around []string, _ []func([]string)) { args[i](around) }}
			if param.Type == api.Val {
				r.size++
				args[i](around)
			}
		}
		r.walk(n.Kids[0], inner, around)
	}
}

// P4.4: the sizes of random unfolded terms.
func TestRandomUnfoldedTerms(t *testing.T) {
	sized := 0
	for seed := range 300 {
		text := newPiece(seed, true)
		p, err := lang.Read(text)
		if err != api.OK {
			continue
		}
		walked := walkThrough(p)
		if decls, command, ok := strings.Cut(text, "|- com : "); ok && !walked.beyond {
			sized++
			wantSize(t, decls, command, walked.size)
		}
	}
	if sized < 120 {
		t.Errorf("the sizes of only %d terms were checked", sized)
	}
}

// P4.4: names, variables and labels are bound as they were where they stood.
func TestBoundWhereTheyStood(t *testing.T) {
	plays(t, "|- exp : new y = 0 [ proc f(x : exp) : exp [ new y = 3 [ x ] ] [ f(y) ] ]", "0 1", "0 4")
	plays(t, "|- exp : new y = 1 [ proc f() : exp [ y ] [ new y = 2 [ f ] ] ]", "0 2", "0 3")
	plays(t, "|- exp : new y = 1 [ proc f(x : val) : exp [ y + x ] [ new y = 2 [ f(y) ] ] ]", "0 4", "0 3, 0 1")
	plays(t, "|- exp : new a = 1 [ proc f(a : val, b : val) : exp [ a + b ] [ f(2, a) ] ]", "0 4", "0 1")
	plays(t, "|- exp : new a = 1 [ proc f(a : exp, b : val) : exp [ new b = 3 [ a ] + b ] [ f(a, a + 1) ] ]", "0 4", "0 1, 0 2, 0 3")
	plays(t, "p : com, q : com |- com : proc p() : com { p } { proc q() : com { p; p } { q } }", "0 3 4 3 4 1", "0 5, 0 3 4 1")
	plays(t, "p : com |- com : proc f(p : com) : com { p; p } { f({ p; skip }) }", "0 3 4 3 4 1", "0 1")
	// What is run of an argument sees neither the names nor the labels of where it is called.
	plays(t, "|- com : proc f(x : com) : com { block k { x; fault }; fault } { block k { f({ exit k }) } }", "0 1", "0 2")
	plays(t, "f(com) : com |- com : proc g(x : com) : com { block k { f({ x }) }; fault } { block k { g({ exit k }) } }", "0 3 5 1, 0 3 4 2", "0 3 5 2, 0 3 5 6")
	// A parameter that a procedure hands on by itself is that of its own place, whatever is called like it now.
	plays(t, "p : com |- com : proc q(x : com) : com { proc g() : com { x } { new x = 0 { g } } } { q({ p }) }", "0 3 4 1", "0 1, 0 2")
	plays(t, "p : com |- com : proc q(x : com) : com { proc g(y : com) : com { x } { proc x() : com { fault } { g({ x }) } } } { q({ p }) }", "0 3 4 1", "0 1, 0 2")
	plays(t, "|- exp : proc f(a : exp, b : exp) : exp [ b ] [ proc g(a : exp, b : exp) : exp [ f(b, a) ] [ g(1, 2) + 2 * g(f(1, 0), 3) ] ]", "0 2", "0 1, 0 3, 0 4")
	plays(t, "p : com |- com : proc q(a : val, b : com) : com { b } { proc r(c : com) : com { q(do { p } [ 1 ], { c }) } { r({ fault }) } }", "0 3 4 2", "0 2")
	// Each call has variables of its own, also one within another one of the same procedure.
	plays(t, "|- exp : proc f(x : exp) : exp [ new n = 0 [ do { n := n + 1; n := n + x } [ n ] ] ] [ f(f(f(0))) + f(0) ]", "0 1", "0 2, 0 3, 0 4")
}

// forwarding returns a piece in which a term stands within 2^levels calls of procedures that only hand it on.
func forwarding(levels int, first, term string) string {
	text := "proc fa(x : com) : com { " + first + " } "
	last := "fa"
	for i := range levels {
		next := "f" + strings.Repeat(string(rune('a'+i%26)), 2+i/26)
		text += "{ proc " + next + "(x : com) : com { " + last + "({ " + last + "({ x }) }) } "
		last = next
	}
	return "|- com : " + text + "{ " + last + "({ " + term + " }) " + strings.Repeat("}", levels+1)
}

// P1, P4.4: where procedures only hand on what they are given, the unfolded term is small, however many calls there are.
func TestForwarding(t *testing.T) {
	plays(t, forwarding(50, "x", "fault"), "0 2", "0 1")
	plays(t, forwarding(50, "skip", "fault"), "0 1", "0 2")
	plays(t, forwarding(12, "block k { x }", "fault"), "0 2", "0 1")
	wantFull(t, forwarding(50, "skip; x", "fault"))
	wantFull(t, forwarding(50, "proc y() : com { x; skip } { y }", "fault"))
	plays(t, "p : com "+forwarding(50, "proc y() : com { x } { proc z(x : com) : com { y } { z({ stop }) } }", "p; fault"), "0 3, 0 3 4 2", "0 2")
	wantSize(t, "p : com", strings.TrimPrefix(forwarding(40, "x", "p; p"), "|- com : "), 3)
	// An expression, handed to and fro.
	text := "proc fa(x : exp, y : exp) : exp [ y ] "
	for i := range 50 {
		next := string(rune('a'+i%26)) + string(rune('b'+i/26))
		last := "fa"
		if i > 0 {
			last = string(rune('a'+(i-1)%26)) + string(rune('b'+(i-1)/26))
		}
		text += "[ proc " + next + "(x : exp, y : exp) : exp [ " + last + "(" + last + "(y, x), " + last + "(x, y)) ] "
	}
	plays(t, "|- exp : "+text+"[ xc(1, 2) "+strings.Repeat("]", 51), "0 3", "0 2")
}

// P1, P4.4: terms that nest thousands of levels deep are unfolded, run and left.
func TestDeepTerms(t *testing.T) {
	plays(t, forwarding(13, "block k { x }", "fault"), "0 2", "0 1")
	plays(t, strings.Replace(forwarding(12, "new y = 3 { x }", "exit out"), "|- com : ", "|- com : block out { ", 1)+"}", "0 1", "0 2")
	plays(t, "f(com) : com "+forwarding(10, "f({ x })", "fault"), "0 3, 0 3 5 3, 0 3 5 3 5 3 5 3, 0 3 5 3 4 6 5 3 5 3 4 6", "0 2, 0 3 5 2")
}
