package parts

import (
	"reflect"
	"strings"
	"testing"

	"doppelganger/api"
)

// P7.1, P7.2: what is by the grammar is read, and has a plain text, which is read as the same module.
func TestReadAndText(t *testing.T) {
	for _, c := range [][2]string{
		{up, up},
		{down, down},
		{"a: com { skip }", "a: com { skip }"},
		{"a:exp[1]", "a: exp [ 1 ]"},
		{"\n a\t: com\n{ skip }  ", "a: com { skip }"},
		{"new x=3;a:exp[x]", "new x = 3; a: exp [ x ]"},
		{"new\nx\t= 0 ;a : com {x:=(x+1)}; b:exp[ ((x)) ]", "new x = 0; a: com { x := x + 1 }; b: exp [ x ]"},
		{"new d = 0; new c = 1; new b = 2; new a = 3; z: com { a := b }; y: com { skip }; x: com { c := d }", "new d = 0; new c = 1; new b = 2; new a = 3; z: com { a := b }; y: com { skip }; x: com { c := d }"},
		{"abcdefgh: exp [ 0 - 1 ]", "abcdefgh: exp [ 0 - 1 ]"},
		{"client: com { skip }", "client: com { skip }"}, // an operation may have this name
		{"a: com { new client = 1 { client := 2 } }", "a: com { new client = 1 { client := 2 } }"},
		{"new x = 0; a: exp [ do { block k { x := 1; exit k } } [ new x = x [ x ] ] ]", "new x = 0; a: exp [ do { block k { x := 1; exit k } } [ new x = x [ x ] ] ]"},
		{"new x = 0; a: com { proc x(y : com) : com { y } { x({ skip }) } }", "new x = 0; a: com { proc x(y : com) : com { y } { x({ skip }) } }"},
		{"new x = 0; a: com { proc a(x : val) : exp [ x ] { x := a(x) } }", "new x = 0; a: com { proc a(x : val) : exp [ x ] { x := a(x) } }"},
		{"a: com { while 1 { stop; fault } }; b: exp [ if 1 [ stop ] [ fault ] ]", "a: com { while 1 { stop; fault } }; b: exp [ if 1 [ stop ] [ fault ] ]"},
	} {
		m := mustRead(t, c[0])
		if got := m.Text(); got != c[1] {
			t.Errorf("Text of %q: %q; want %q", c[0], got, c[1])
		}
		if again := mustRead(t, m.Text()); !reflect.DeepEqual(again, m) {
			t.Errorf("the text %q is read as another module", m.Text())
		}
	}
}

// P7.1: what is not by the grammar.
func TestNotByTheGrammar(t *testing.T) {
	for _, text := range []string{
		"", " ", ";", "new x = 0;", "new x = 0; ", "new", "new x", "new x =", "new x = 0", "a", "a:", "a: com", "a: com {", "a: com { skip", "a: exp", "a: exp [", "a: exp [ 1",
		"a: com { }", "a: exp [ ]", "a: com { skip };", "; a: com { skip }", "a: com { skip };; b: com { skip }", "a: com { skip } b: com { skip }", "a: com { skip }, b: com { skip }",
		"new x = 0 a: com { skip }", "new x = 0, a: com { skip }", "new x 0; a: com { skip }", "new x == 0; a: com { skip }", "new x := 0; a: com { skip }", "newx = 0; a: com { skip }",
		"new x = 4; a: com { skip }", "new x = 12; a: com { skip }", "new x = x; a: com { skip }", "new x = (1); a: com { skip }", "new x = 0 + 0; a: com { skip }", "new x = ; a: com { skip }", "new = 0; a: com { skip }",
		"a com { skip }", "a := com { skip }", "a :: com { skip }", ": com { skip }", "a: { skip }", "a: val { skip }", "a: val [ 1 ]", "a: proc { skip }", "a: com exp { skip }", "a(): com { skip }", "a(com): com { skip }",
		"a: com [ 1 ]", "a: exp { skip }", "a: com [ skip ]", "a: exp { 1 }", "a: exp ( 1 )", "a: com ( skip )", "a: com skip", "a: com { 1 }", "a: exp [ skip ]", "a: com { skip ]", "a: exp [ 1 }",
		"a: com { skip } }", "a: com { skip } skip", "a: com { skip } { skip }", "a: exp [ 1 ] + 1", "a: exp [ 1 ] [ 1 ]", "a: com { { skip } }", "a: com { skip; }", "a: exp [ (1 ]", "a: exp [ 1) ]",
		"a: com { skip ] [ skip }", "a: exp [ 1 } { 1 ]", "a: com { if 1 [ 1 ] [ 1 ] }", "a: com { block k { skip }", "a: com { block k { skip } } }", "a: exp [ new y = 1 [ 1 ]", "a: exp [ 1 ] ] ",
		"a: com { skip }; new x = 0; b: com { skip }", "a: com { skip }; new x = 0", "new x = 0; { x := 1 }", "|- com : skip", "a : com |- com : a", "a: com { b: com { skip } }",
		"a: com { A }", "a: com { skip } #", "a: com\r{ skip }", "ä: com { skip }", "a1: com { skip }", "a: com { skip }\x00", "a: com { skip | skip }", "a: com { x = 1 }",
		"abcdefghi: com { skip }", "new abcdefghi = 0; a: com { skip }", "a: com { abcdefghi }", "skip: com { skip }", "val: com { skip }", "com: com { com }", "new: com { skip }", "new new = 0; a: com { skip }", "new do = 0; a: com { skip }", "new exp = 0; a: com { skip }",
		// Numbers of variables and operations.
		"new a = 0; new b = 0; new c = 0; new d = 0; new e = 0; f: com { skip }",
		"a: com { skip }; b: com { skip }; c: com { skip }; d: com { skip }",
		// Names.
		"new client = 0; a: com { skip }", "new x = 0; new client = 0; a: com { skip }", "a: exp [ 1 ]; a: com { skip }", "a: com { skip }; b: com { skip }; a: com { skip }",
		"new x = 0; new x = 0; a: com { skip }", "new x = 0; new y = 0; new x = 1; a: com { skip }", "new x = 0; x: com { skip }", "new x = 0; a: com { skip }; x: exp [ x ]",
		// Numbers of arguments and parameters in bodies.
		"a: com { f(1, 1, 1, 1) }", "a: com { f() }", "a: com { proc f(x : com, x : com) : com { skip } { skip } }", "a: com { proc f(a : com, b : com, c : com, d : com) : com { skip } { skip } }",
	} {
		wantError(t, text, api.ErrForm)
	}
}

// P7.1: a text has at most MaxText - 100 bytes, blanks among them; with this length nothing is in the way of a body.
func TestLongTexts(t *testing.T) {
	padded := func(text string, length int) string {
		return text + strings.Repeat(" ", length-len(text))
	}
	for _, text := range []string{up, "a: com { skip }", "new abcdefgh = 0; new bbbbbbbb = 0; new cccccccc = 0; new dddddddd = 0; a: com { abcdefgh := 1 }"} {
		if got := mustRead(t, padded(text, api.MaxText-100)).Text(); got != text {
			t.Errorf("Text of %q with blanks: %q", text, got)
		}
		wantError(t, padded(text, api.MaxText-99), api.ErrForm)
		wantError(t, padded(text, api.MaxText+1), api.ErrForm)
	}
	inner := "new abcdefgh = 0; new bbbbbbbb = 0; new cccccccc = 0; new dddddddd = 0; a: com {" + strings.Repeat(" ", 3000) + "abcdefgh := 1"
	wantError(t, padded(inner, api.MaxText-101)+"}", api.OK)
	wantError(t, padded(inner, api.MaxText-100)+"}", api.ErrForm)
	wantError(t, strings.Repeat("new x = 0; ", 350), api.ErrForm)
	wantError(t, "a: com "+strings.Repeat("{", 3800), api.ErrForm)
	wantError(t, "a: exp [ "+strings.Repeat("(", 3800), api.ErrForm)
}

// P7.1: a body uses the variables of the module, and what it binds itself, and no other names, and the first error counts.
func TestNamesAndTypes(t *testing.T) {
	for _, c := range []struct {
		text string
		want api.Errno
	}{
		{"a: com { b }", api.ErrName},
		{"new x = 0; a: com { x }", api.ErrType},
		{"a: com { a }", api.ErrName},
		{"a: com { skip }; b: com { a }", api.ErrName},
		{"a: exp [ 1 ]; b: exp [ a ]", api.ErrName},
		{"a: com { client }", api.ErrName},
		{"a: com { client({ skip }) }", api.ErrName},
		{"a: exp [ client ]", api.ErrName},
		{"client: com { skip }; b: com { client }", api.ErrName},
		{"a: com { hole }", api.ErrName},
		{"a: com { x := 1 }", api.ErrName},
		{"a: exp [ x ]", api.ErrName},
		{"a: com { exit k }", api.ErrName},
		{"a: com { new x = 0 { skip } }; b: com { x := 1 }", api.ErrName},
		{"a: com { new x = x { skip } }", api.ErrName},
		{"new x = 0; a: com { exit x }", api.ErrType},
		{"new x = 0; a: exp [ x(1) ]", api.ErrType},
		{"a: com { block k { k := 1 } }", api.ErrType},
		{"a: com { proc f(p : com) : com { p } { f } }", api.ErrType},
		{"a: com { proc f() : com { skip } { f := 1 } }", api.ErrType},
		// The first one, in the order of operations and nodes.
		{"new x = 0; a: com { x; y }", api.ErrType},
		{"new x = 0; a: com { y; x }", api.ErrName},
		{"new x = 0; a: com { x }; b: com { y }", api.ErrType},
		{"new x = 0; a: com { y }; b: com { x }", api.ErrName},
		{"new x = 0; a: com { skip }; b: com { x }; c: com { y }", api.ErrType},
		{"new x = 0; a: com { skip }; b: com { y }; c: com { x }", api.ErrName},
		// What is not by the grammar counts first, wherever it stands.
		{"a: com { b }; c: com { }", api.ErrForm},
		{"new x = 0; a: com { x }; c: exp [ 1", api.ErrForm},
		{"new x = 0; a: com { x }; b: com { y }; c: exp [ { ]", api.ErrForm},
		{"a: com { b }; a: com { skip }", api.ErrForm},
	} {
		wantError(t, c.text, c.want)
	}
}

// P7.2: limits count for the piece of the module, and behind all other errors.
func TestLimits(t *testing.T) {
	for _, c := range []struct {
		text string
		want api.Errno
	}{
		// The call of client, and 2 n - 1 nodes of n steps; variables have two nodes each.
		{"a: com { " + skips(300) + " }", api.OK},
		{"a: com { " + skips(301) + " }", api.ErrFull},
		{"new x = 0; a: com { " + skips(299) + " }", api.OK},
		{"new x = 0; a: com { " + skips(300) + " }", api.ErrFull},
		{"new x = 0; a: com { " + skips(200) + " }; b: com { " + skips(99) + " }", api.OK},
		{"new x = 0; a: com { " + skips(200) + " }; b: com { " + skips(100) + " }; c: exp [ 1 ]", api.ErrFull},
		{"new w = 0; new x = 0; new y = 0; new z = 0; a: com { " + skips(99) + " }; b: com { " + skips(99) + " }; c: com { " + skips(99) + " }", api.OK},
		{"new w = 0; new x = 0; new y = 0; new z = 0; a: com { " + skips(99) + " }; b: com { " + skips(99) + " }; c: com { " + skips(100) + " }", api.ErrFull},
		// Bodies stand below the call, and this within the variables.
		{"a: com { " + nested(58, "skip") + " }", api.OK},
		{"a: com { " + nested(59, "skip") + " }", api.ErrFull},
		{"new w = 0; new x = 0; new y = 0; new z = 0; a: com { " + nested(54, "skip") + " }", api.OK},
		{"new w = 0; new x = 0; new y = 0; new z = 0; a: com { " + nested(55, "skip") + " }", api.ErrFull},
		{"a: exp [ 1 ]; b: com { skip }; c: com { " + nested(59, "skip") + " }", api.ErrFull},
		{"a: com { " + skips(301) + " }; b: com { skip }", api.ErrFull},
		{"a: com { skip }; b: com { " + nested(70, "skip") + " }; c: exp [ 1 ]", api.ErrFull},
		// Errors of names and of the form count first.
		{"a: com { " + skips(301) + " }; b: com { c }", api.ErrName},
		{"a: com { " + nested(70, "skip") + " }; b: com { c }", api.ErrName},
		{"new x = 0; a: com { " + skips(301) + " }; b: com { skip }; c: com { x }", api.ErrType},
		{"new x = 0; a: com { y }; b: com { " + skips(301) + " }; c: com { x }", api.ErrName},
		{"new x = 0; a: com { x; " + skips(301) + " }; b: com { y }", api.ErrType},
		{"a: com { " + skips(301) + " }; b: com { " + skips(301) + " }; c: com { x := x }", api.ErrName},
		{"a: com { " + skips(301) + " }; b: com { }", api.ErrForm},
	} {
		wantError(t, c.text, c.want)
	}
}

// P7.2: the operations, in the order of the text, without arguments; no list is that of another call.
func TestOperations(t *testing.T) {
	for _, c := range []struct {
		text string
		want []api.Decl
	}{
		{up, []api.Decl{{Name: "inc"}, {Name: "get", Result: api.Exp}}},
		{"z: exp [ 1 ]", []api.Decl{{Name: "z", Result: api.Exp}}},
		{"new x = 0; b: exp [ 1 ]; c: com { x := 1 }; a: exp [ x ]", []api.Decl{{Name: "b", Result: api.Exp}, {Name: "c"}, {Name: "a", Result: api.Exp}}},
	} {
		m := mustRead(t, c.text)
		got := m.Operations()
		if !reflect.DeepEqual(got, c.want) {
			t.Errorf("Operations of %q: %v; want %v", c.text, got, c.want)
		}
		got[0] = api.Decl{Name: "other", Args: []api.Type{api.Com}}
		if !reflect.DeepEqual(m.Operations(), c.want) || m.Text() != c.text {
			t.Errorf("%q has become %q", c.text, m.Text())
		}
	}
}

// P1: nil and the zero value are no modules.
func TestNoModule(t *testing.T) {
	m := mustRead(t, up)
	for _, none := range []*Module{nil, {}} {
		if text, decls := none.Text(), none.Operations(); text != "" || len(decls) > 0 {
			t.Errorf("no module: %q, %v", text, decls)
		}
		if p, err := none.Piece(); p != nil || err != api.ErrArg {
			t.Errorf("Piece of no module: %v, %d", p, err)
		}
		for _, other := range []*Module{m, nil, {}} {
			wantSame(t, none, other, false, api.ErrArg)
			wantRelation(t, none, other, api.ErrArg)
			wantRelation(t, other, none, api.ErrArg)
		}
	}
}
