package parts

import (
	"slices"
	"strconv"
	"strings"
	"testing"

	"doppelganger/api"
	"doppelganger/play"
)

// P7.5, P7.6: the pairs of states behind the same calls, each of which comes to an end.
func TestRelation(t *testing.T) {
	for _, c := range []struct {
		a, b string
		want []string
	}{
		{up, down, []string{"0 0", "1 3", "2 2", "3 1"}},
		{down, up, []string{"0 0", "1 3", "2 2", "3 1"}},
		{up, up, []string{"0 0", "1 1", "2 2", "3 3"}},
		{"a: com { skip }", "b: com { skip }", []string{" "}}, // no variables, one state
		{"a: com { skip }", "new x = 2; b: com { x := x + 2 }", []string{" 0", " 2"}},
		{"new x = 2; b: com { x := x + 2 }", "a: com { skip }", []string{"0 ", "2 "}},
		{"new x = 3; a: exp [ x ]", "new y = 3; a: exp [ y ]", []string{"3 3"}},
		// A fault, and never ending, lead to no state; neither do effects that come first.
		{"new n = 0; go: com { if n { fault } { n := 1 } }", "new n = 0; go: com { if n { fault } { n := 1 } }", []string{"0 0", "1 1"}},
		{"new n = 0; go: com { n := n + 1; if n == 2 { stop } { skip } }", "new n = 1; go: com { if n == 2 { while n { skip } } { n := 2 } }", []string{"0 1", "1 2"}},
		{"new n = 0; a: com { n := n + 1; fault }; b: exp [ do { n := 2 } [ stop ] ]", "a: com { fault }; b: exp [ stop ]", []string{"0 "}},
		// An expression changes the state as a command does.
		{"new x = 0; a: exp [ do { x := x + 1 } [ x ] ]", "new x = 1; a: exp [ new y = x [ do { x := y + 1 } [ y ] ] ]", []string{"0 1", "1 2", "2 3", "3 0"}},
		{"new x = 1; a: exp [ do { x := 2 } [ x ] + do { x := 3 } [ x ] ]", "a: exp [ 1 ]", []string{"1 ", "3 "}},
		// The values stand in the order of the text, not in that of names; and pairs in that of numbers.
		{"new y = 0; new x = 1; a: com { y := y + 1; x := 0 }", "new x = 0; a: com { x := x + 3 }", []string{"00 0", "01 0", "10 3", "20 2", "30 1"}},
		{"new x = 2; new y = 0; a: com { x := x + 1; y := y + 1 }", "new z = 0; a: com { z := 1 }", []string{"02 1", "13 1", "20 0", "20 1", "31 1"}},
		// One state comes together with many.
		{"new x = 0; a: com { x := x == 0 }", "new y = 0; a: com { y := y + 1 }", []string{"0 0", "0 2", "1 1", "1 3"}},
		{"new y = 0; a: com { y := y + 1 }", "new x = 0; a: com { x := x == 0 }", []string{"0 0", "1 1", "2 0", "3 1"}},
		// What a body binds itself is forgotten, and hides the variable of its name.
		{"new x = 0; a: com { new x = 2 { x := 3 }; x := x + 2 }", "new x = 0; a: com { x := x + 1; block x { exit x }; new y = x { proc x(x : val) : com { x := 2 } { x(y) } }; x := x + 1 }", []string{"0 0", "2 2"}},
		{"new x = 0; a: com { block k { x := 1; exit k; x := 2 } }", "new x = 0; a: com { x := 1 }", []string{"0 0", "1 1"}},
		// An expression is run within no other name than those of its module.
		{"new x = 0; a: exp [ new client = 1 [ do { x := client } [ client ] ] ]", "new y = 0; a: exp [ do { y := 2 } [ 1 ] ]", []string{"0 0", "1 2"}},
	} {
		wantRelation(t, mustRead(t, c.a), mustRead(t, c.b), api.OK, c.want...)
	}
}

// P7.5: there are no pairs of modules that are apart.
func TestRelationOfOthers(t *testing.T) {
	wantRelation(t, mustRead(t, up), mustRead(t, square), api.ErrApart)
	wantRelation(t, mustRead(t, "a: com { skip }"), mustRead(t, "a: com { stop }"), api.ErrApart)
	// This comes ahead of limits.
	wantRelation(t, mustRead(t, "a: com { "+skips(300)+" }"), mustRead(t, "a: com { stop }"), api.ErrApart)
}

// P7.5, P7.6: programs of operations have at most the size of P1.4. They are a bit greater than the pieces of modules.
func TestRelationOfGreatOnes(t *testing.T) {
	for _, c := range []struct {
		body, small string
		want        api.Errno
	}{
		{"op: com { if 0 { skip } { skip }; " + skips(297) + " }", "op: com { skip }", api.OK},           // 598 nodes, and 2 more
		{"op: com { " + skips(300) + " }", "op: com { skip }", api.ErrFull},                              // 599
		{"op: exp [ do { if 0 { skip } { skip }; " + skips(295) + " } [ 1 ] ]", "op: exp [ 1 ]", api.OK}, // 596 nodes, and 4 more
		{"op: exp [ do { " + skips(298) + " } [ 1 ] ]", "op: exp [ 1 ]", api.ErrFull},                    // 597
		// Commands nest as deep as in the piece, expressions one level deeper.
		{"op: com { " + nested(58, "skip") + " }", "op: com { skip }", api.OK},
		{"op: exp [ do { " + nested(56, "skip") + " } [ 1 ] ]", "op: exp [ 1 ]", api.OK},
		{"op: exp [ do { " + nested(57, "skip") + " } [ 1 ] ]", "op: exp [ 1 ]", api.ErrFull},
		// It does not matter what comes of the operation.
		{"op: com { stop; " + skips(299) + " }", "op: com { stop }", api.ErrFull},
		{"op: com { fault; " + skips(299) + " }", "op: com { fault }", api.ErrFull},
		{"one: exp [ fault ]; op: com { " + skips(299) + " }", "one: exp [ fault ]; op: com { skip }", api.OK},
		{"op: com { " + skips(298) + " }; one: exp [ 1 ]", "op: com { skip }; one: exp [ 1 ]", api.OK},
	} {
		a, b := mustRead(t, c.body), mustRead(t, c.small)
		var want []string
		if c.want == api.OK {
			want = []string{" "}
		}
		wantRelation(t, a, b, c.want, want...)
		wantRelation(t, b, a, c.want, want...)
	}
}

// stepsOf returns the steps of a program.
func stepsOf(t *testing.T, text string) int {
	t.Helper()
	_, _, steps, err := play.Run(readPiece(t, text))
	if err != api.OK {
		t.Fatalf("Run of %q: %d", text, err)
	}
	return steps
}

// loops returns a command that runs another one three times for each of some names, each within what the next one runs.
func loops(names, inner string) string {
	for _, name := range names {
		text := string(name)
		inner = "new " + text + " = 1 { while " + text + " { " + inner + "; " + text + " := " + text + " + 1 } }"
	}
	return inner
}

// long returns a command with which a program makes just so many steps, nearly all of them those of the command.
func long(t *testing.T, steps int, program func(body string) string) string {
	t.Helper()
	body := loops("abcdef", skips(8))
	left := func(more string) int { return steps - stepsOf(t, program(body+more)) }
	pad := func(count int) string { return "; " + loops("ab", skips(count)) }
	each := left(pad(1)) - left(pad(2))
	body += pad(1 + (left(pad(1))-10)/each)
	if left("")%2 == 1 {
		body += "; while 0 { skip }"
	}
	for left("") > 0 {
		body += "; skip"
	}
	if left("") != 0 {
		t.Fatalf("%d steps too many", -left(""))
	}
	return body
}

// P7.5, P7.6: programs of operations make at most MaxSteps steps, in all states that are met.
func TestRelationOfLongOnes(t *testing.T) {
	for _, c := range []struct {
		program, module string // the program of P7.6, and the module, with BODY in the place of a command
		short           string // a module that is the same
		want            []string
	}{
		{"do { BODY } [ 0 ]", "op: com { BODY }", "op: com { skip }", []string{" "}},
		{"new x = 0 [ new y = 1 [ do { new client = do { BODY } [ x ] { skip } } [ 0 ] ] ]", "new x = 0; new y = 1; op: exp [ do { BODY } [ x ] ]", "op: exp [ 0 ]", []string{"01 "}},
		{"new x = 1 [ do { if x { BODY } { x := 1 } } [ 0 ] ]", "new x = 0; op: com { if x { BODY } { x := 1 } }", "op: com { skip }", []string{"0 ", "1 "}},
		{"do { BODY; fault } [ 0 ]", "one: exp [ 1 ]; op: com { BODY; fault }", "one: exp [ 1 ]; op: com { fault }", []string{" "}},
	} {
		with := func(text, body string) string { return strings.ReplaceAll(text, "BODY", body) }
		body := long(t, api.MaxSteps-2, func(body string) string { return "|- exp : " + with(c.program, body) })
		short := mustRead(t, c.short)
		just, more := mustRead(t, with(c.module, body+"; skip")), mustRead(t, with(c.module, body+"; while 0 { skip }"))
		wantRelation(t, just, short, api.OK, c.want...)
		wantSame(t, more, short, true, api.OK)
		wantRelation(t, more, short, api.ErrFull)
		wantRelation(t, short, more, api.ErrFull)
	}
	// Here the state in which it is long is not met.
	head := "new x = 0; op: com { if x == 2 { " + loops("abcdef", skips(20)) + " } { x := "
	wantRelation(t, mustRead(t, head+"1 } }"), mustRead(t, head+"3 } }"), api.OK, "0 0", "1 3")
}

// P7.5: all of 65536 pairs.
func TestManyPairs(t *testing.T) {
	count := "a := a + 1; if a { skip } { b := b + 1; if b { skip } { c := c + 1; if c { skip } { d := d + 1 } } }"
	head := "new a = 0; new b = 0; new c = 0; new d = 0; "
	one, other := mustRead(t, head+"x: com { "+count+" }; y: com { skip }"), mustRead(t, head+"x: com { skip }; y: com { "+count+" }")
	pairs, err := Relation(one, other)
	if err != api.OK || len(pairs) != 1<<16 {
		t.Fatalf("%d pairs, %d", len(pairs), err)
	}
	for number, p := range pairs {
		if text := digits(p[0]) + digits(p[1]); text != baseFour(number) {
			t.Fatalf("pair %d: %s", number, text)
		}
	}
}

func baseFour(number int) string {
	text := strconv.FormatInt(int64(number), api.Width)
	return "00000000"[len(text):] + text
}

// P3: lists of pairs are no others, whether of one call or of another one.
func TestPairsOfTheirOwn(t *testing.T) {
	a, b := mustRead(t, up), mustRead(t, down)
	pairs, _ := Relation(a, b)
	want := spelled(pairs)
	for i := range pairs {
		pairs[i][0][0], pairs[i][1][0] = 7, 7
		_ = append(pairs[i][0], 8)
		_ = append(pairs[i][1], 8)
	}
	for i, p := range pairs {
		if !slices.Equal(p[0], []int{7}) || !slices.Equal(p[1], []int{7}) {
			t.Errorf("pair %d has become %v", i, p)
		}
	}
	wantRelation(t, a, b, api.OK, want...)
	if a.Text() != up || b.Text() != down {
		t.Errorf("the modules have become %q and %q", a.Text(), b.Text())
	}
}
