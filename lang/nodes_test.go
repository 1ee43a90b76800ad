package lang

import (
	"reflect"
	"slices"
	"strings"
	"testing"

	"doppelganger/api"
)

// P1.6: the nodes of each kind, with all their fields.
func TestNodes(t *testing.T) {
	com, exp := api.Com, api.Exp
	for text, want := range map[string][]api.Node{
		"|- com : skip":  {{Kind: api.Skip}},
		"|- com : stop":  {{Kind: api.Stop}},
		"|- exp : stop":  {{Kind: api.Stop, Type: exp}},
		"|- com : fault": {{Kind: api.Fault}},
		"|- exp : fault": {{Kind: api.Fault, Type: exp}},
		"|- exp : 3":     {{Kind: api.Num, Type: exp, Value: 3}},
		"p : com |- com : p; skip": {
			{Kind: api.Seq, Kids: []int{1, 2}}, {Kind: api.Call, Name: "p"}, {Kind: api.Skip},
		},
		"|- com : skip; stop; fault": {
			{Kind: api.Seq, Kids: []int{1, 4}}, {Kind: api.Seq, Kids: []int{2, 3}}, {Kind: api.Skip}, {Kind: api.Stop}, {Kind: api.Fault},
		},
		"|- com : new x = 1 { x := x }": {
			{Kind: api.New, Name: "x", Kids: []int{1, 2}}, {Kind: api.Num, Type: exp, Value: 1},
			{Kind: api.Assign, Name: "x", Kids: []int{3}}, {Kind: api.Read, Type: exp, Name: "x"},
		},
		"x : exp |- exp : new y = x [ y ]": {
			{Kind: api.New, Type: exp, Name: "y", Kids: []int{1, 2}}, {Kind: api.Call, Type: exp, Name: "x"}, {Kind: api.Read, Type: exp, Name: "y"},
		},
		"|- exp : if 0 [ 1 ] [ 2 ]": {
			{Kind: api.If, Type: exp, Kids: []int{1, 2, 3}}, {Kind: api.Num, Type: exp}, {Kind: api.Num, Type: exp, Value: 1}, {Kind: api.Num, Type: exp, Value: 2},
		},
		"|- com : if 0 { skip; skip } { stop }": {
			{Kind: api.If, Kids: []int{1, 2, 5}}, {Kind: api.Num, Type: exp}, {Kind: api.Seq, Kids: []int{3, 4}}, {Kind: api.Skip}, {Kind: api.Skip}, {Kind: api.Stop},
		},
		"|- com : while 0 { skip }": {
			{Kind: api.While, Kids: []int{1, 2}}, {Kind: api.Num, Type: exp}, {Kind: api.Skip},
		},
		"f(com, exp, val) : exp |- exp : f({ skip }, 1, 2)": {
			{Kind: api.Call, Type: exp, Name: "f", Kids: []int{1, 2, 3}}, {Kind: api.Skip}, {Kind: api.Num, Type: exp, Value: 1}, {Kind: api.Num, Type: exp, Value: 2},
		},
		"|- com : proc f(a : com, b : val) : exp [ b ] { skip }": {
			{Kind: api.Proc, Name: "f", Params: []api.Param{{Name: "a", Type: com}, {Name: "b", Type: api.Val}}, Result: exp, Kids: []int{1, 2}},
			{Kind: api.Read, Type: exp, Name: "b"}, {Kind: api.Skip},
		},
		"|- exp : proc f(a : exp) : com { skip } [ 1 ]": {
			{Kind: api.Proc, Type: exp, Name: "f", Params: []api.Param{{Name: "a", Type: exp}}, Kids: []int{1, 2}},
			{Kind: api.Skip}, {Kind: api.Num, Type: exp, Value: 1},
		},
		"|- exp : 1 + 2 * 3 - 0 < 1": {
			{Kind: api.Less, Type: exp, Kids: []int{1, 8}}, {Kind: api.Sub, Type: exp, Kids: []int{2, 7}}, {Kind: api.Add, Type: exp, Kids: []int{3, 4}}, {Kind: api.Num, Type: exp, Value: 1},
			{Kind: api.Mul, Type: exp, Kids: []int{5, 6}}, {Kind: api.Num, Type: exp, Value: 2}, {Kind: api.Num, Type: exp, Value: 3}, {Kind: api.Num, Type: exp}, {Kind: api.Num, Type: exp, Value: 1},
		},
		"|- exp : do { skip } [ 1 == 2 ]": {
			{Kind: api.Do, Type: exp, Kids: []int{1, 2}}, {Kind: api.Skip}, {Kind: api.Equal, Type: exp, Kids: []int{3, 4}}, {Kind: api.Num, Type: exp, Value: 1}, {Kind: api.Num, Type: exp, Value: 2},
		},
		"|- com : block k { new x = exit k { exit k } }": {
			{Kind: api.Block, Name: "k", Kids: []int{1}}, {Kind: api.New, Name: "x", Kids: []int{2, 3}}, {Kind: api.Exit, Type: exp, Name: "k"}, {Kind: api.Exit, Name: "k"},
		},
	} {
		if got := mustRead(t, text).Nodes(); !sameNodes(got, want) {
			t.Errorf("Nodes of %q: %v; want %v", text, got, want)
		}
	}
}

// P1.7: what is built is the piece that is read.
func TestBuild(t *testing.T) {
	p := mustRead(t, "f(com, val) : com, b : exp, a : com |- com : new x = b { proc g(y : exp) : com { f({ a }, y) } { block k { g(x * 2); exit k } } }")
	decls := []api.Decl{{Name: "f", Args: []api.Type{api.Com, api.Val}}, {Name: "b", Result: api.Exp}, {Name: "a"}}
	for range len(decls) {
		decls = append(decls[1:], decls[0])
		q, err := Build(decls, api.Com, p.Nodes())
		if err != api.OK || !equal(p, q) || q.Text() != p.Text() {
			t.Fatalf("Build: %d", err)
		}
	}
	if got := p.Decls(); len(got) != 3 || got[0].Name != "a" || got[1].Name != "b" || got[2].Name != "f" || !slices.Equal(got[2].Args, decls[0].Args) || got[1].Result != api.Exp {
		t.Errorf("Decls: %v", got)
	}
	if p.Type() != api.Com || mustRead(t, "|- exp : 1").Type() != api.Exp {
		t.Errorf("Type")
	}
	empty := []api.Node{{Kind: api.Skip, Params: []api.Param{}, Kids: []int{}}}
	if q, err := Build([]api.Decl{{Name: "a", Args: []api.Type{}}}, api.Com, empty); err != api.OK || q.Text() != "a : com |- com : skip" {
		t.Errorf("empty slices: %d", err)
	}
}

// P1.7: lists that are none of a term.
func TestBuildLists(t *testing.T) {
	com, exp := api.Com, api.Exp
	one := api.Node{Kind: api.Num, Type: exp, Value: 1}
	nop := api.Node{Kind: api.Skip}
	for i, list := range [][]api.Node{
		nil, {},
		{nop, nop},
		{{Kind: api.Seq, Kids: []int{2, 1}}, nop, nop},
		{{Kind: api.Seq, Kids: []int{1, 1}}, nop},
		{{Kind: api.Seq, Kids: []int{1, 2}}, nop},
		{{Kind: api.Seq, Kids: []int{1, 2}}, nop, nop, nop},
		{{Kind: api.Seq, Kids: []int{0, 1}}, nop},
		{{Kind: api.Seq, Kids: []int{-1, 1}}, nop, nop},
		{{Kind: api.Seq, Kids: []int{1, 3}}, nop, nop, nop},
		{{Kind: api.Seq, Kids: []int{1 << 40, 2}}, nop, nop},
		{{Kind: api.Seq, Kids: []int{1}}, nop},
		{{Kind: api.Seq}},
		{{Kind: api.Seq, Kids: []int{1, 2, 3}}, nop, nop, nop},
		{{Kind: api.Seq, Kids: []int{1, 3}}, {Kind: api.Seq, Kids: []int{2, 3}}, nop, nop},
		{{Kind: api.Block, Name: "k", Kids: []int{0}}},
		{{Kind: -1}}, {{Kind: api.Exit + 1}}, {{Kind: 1 << 40}},
		{{Kind: api.Skip, Kids: []int{1}}, nop},
		{{Kind: api.Skip, Type: exp}}, {{Kind: api.Stop, Type: api.Val}}, {{Kind: api.Stop, Type: -1}}, {{Kind: api.Num, Value: 1}},
		{{Kind: api.Num, Type: exp, Value: api.Width}}, {{Kind: api.Num, Type: exp, Value: -1}},
		{{Kind: api.Num, Type: exp, Kids: []int{1}}, one},
		{{Kind: api.Seq, Kids: []int{1, 2}}, nop, one}, {{Kind: api.Seq, Kids: []int{1, 2}}, one, nop},
		{{Kind: api.Seq, Type: exp, Kids: []int{1, 2}}, nop, nop},
		{{Kind: api.If, Kids: []int{1, 2, 3}}, one, nop, one}, {{Kind: api.If, Kids: []int{1, 2, 3}}, one, one, one}, {{Kind: api.If, Type: exp, Kids: []int{1, 2, 3}}, one, nop, nop},
		{{Kind: api.If, Kids: []int{1, 2}}, one, nop}, {{Kind: api.If, Kids: []int{1, 2, 3}}, nop, nop, nop},
		{{Kind: api.While, Kids: []int{1, 2}}, nop, nop}, {{Kind: api.While, Kids: []int{1, 2}}, one, one}, {{Kind: api.While, Type: exp, Kids: []int{1, 2}}, one, nop},
		{{Kind: api.New, Name: "x", Kids: []int{1, 2}}, one, one}, {{Kind: api.New, Name: "x", Type: exp, Kids: []int{1, 2}}, one, nop}, {{Kind: api.New, Name: "x", Kids: []int{1, 2}}, nop, nop},
		{{Kind: api.Assign, Name: "x", Kids: []int{1}}, nop}, {{Kind: api.Assign, Name: "x"}}, {{Kind: api.Assign, Name: "x", Type: exp, Kids: []int{1}}, one},
		{{Kind: api.Read, Name: "x"}}, {{Kind: api.Read, Name: "x", Type: exp, Kids: []int{1}}, one},
		{{Kind: api.Call, Name: "f", Type: api.Val}}, {{Kind: api.Call, Name: "f", Kids: []int{1, 2, 3, 4}}, one, one, one, one},
		{{Kind: api.Proc, Name: "f", Kids: []int{1, 2}}, one, nop}, {{Kind: api.Proc, Name: "f", Result: exp, Kids: []int{1, 2}}, nop, nop}, {{Kind: api.Proc, Name: "f", Kids: []int{1, 2}}, nop, one},
		{{Kind: api.Proc, Name: "f", Result: api.Val, Kids: []int{1, 2}}, one, nop}, {{Kind: api.Proc, Name: "f", Type: api.Val, Kids: []int{1, 2}}, nop, one},
		{{Kind: api.Add, Type: exp, Kids: []int{1, 2}}, one, nop}, {{Kind: api.Less, Kids: []int{1, 2}}, one, one}, {{Kind: api.Mul, Type: exp, Kids: []int{1}}, one},
		{{Kind: api.Do, Type: exp, Kids: []int{1, 2}}, one, one}, {{Kind: api.Do, Kids: []int{1, 2}}, nop, one}, {{Kind: api.Do, Type: exp, Kids: []int{1, 2}}, nop, nop},
		{{Kind: api.Block, Name: "k", Kids: []int{1}}, one}, {{Kind: api.Block, Name: "k", Type: exp, Kids: []int{1}}, nop}, {{Kind: api.Block, Name: "k"}},
		{{Kind: api.Exit, Name: "k", Kids: []int{1}}, nop}, {{Kind: api.Exit, Name: "k", Type: api.Val}},
	} {
		for _, typ := range []api.Type{com, exp, api.Val, -1} {
			if p, err := Build(nil, typ, list); err != api.ErrArg || p != nil {
				t.Errorf("list %d: %d", i, err)
			}
		}
	}
	for _, typ := range []api.Type{exp, api.Val, -1, 3} {
		if _, err := Build(nil, typ, []api.Node{nop}); err != api.ErrArg {
			t.Errorf("a command of the type %d: %d", typ, err)
		}
	}
}

// P1.7: unused fields are zero, used ones as they have to be: each field of each kind, changed.
func TestBuildFields(t *testing.T) {
	p := mustRead(t, "p : com, f(exp, com) : exp |- com : skip; stop; fault; p; new x = 1 { if 1 { x := x } { while f(1, { skip }) { p } }; proc g(a : val) : exp [ a + a - a * a ] { x := do { skip } [ (1 == 2) < 3 ] } }; block k { exit k }")
	named := []int{api.Assign, api.New, api.Call, api.Proc, api.Read, api.Block, api.Exit}
	for i, n := range p.Nodes() {
		changes := map[string]func(n *api.Node){
			"type":         func(n *api.Node) { n.Type = api.Val },
			"other type":   func(n *api.Node) { n.Type = 1 - n.Type },
			"params":       func(n *api.Node) { n.Params = append(n.Params, api.Param{}) },
			"double param": func(n *api.Node) { n.Params = []api.Param{{Name: "b"}, {Name: "b"}} },
			"param type":   func(n *api.Node) { n.Params = []api.Param{{Name: "a", Type: 3}} },
			"result":       func(n *api.Node) { n.Result = 2 },
			"value":        func(n *api.Node) { n.Value = api.Width },
			"kid":          func(n *api.Node) { n.Kids = append(n.Kids, i+1) },
			"kind":         func(n *api.Node) { n.Kind = 20 },
		}
		if slices.Contains(named, n.Kind) {
			for _, name := range append(reserved(), "", "abcdefghi", "A", "x1", "x ", "\u00e4") {
				changes["name "+name] = func(n *api.Node) { n.Name = name }
			}
		} else {
			changes["name"] = func(n *api.Node) { n.Name = "x" }
		}
		if n.Kind != api.Proc {
			changes["small result"] = func(n *api.Node) { n.Result = 1 }
		}
		if n.Kind != api.Num {
			changes["small value"] = func(n *api.Node) { n.Value = 1 }
		}
		for what, change := range changes {
			nodes := p.Nodes()
			change(&nodes[i])
			if q, err := Build(p.Decls(), p.Type(), nodes); err != api.ErrArg || q != nil {
				t.Errorf("node %d (kind %d), %s changed: %d", i, n.Kind, what, err)
			}
		}
	}
}

// P1.7: declarations that no text has.
func TestBuildDecls(t *testing.T) {
	nop := []api.Node{{Kind: api.Skip}}
	for i, decls := range [][]api.Decl{
		{{Name: ""}}, {{Name: "if"}}, {{Name: "val"}}, {{Name: "abcdefghi"}}, {{Name: "A"}}, {{Name: "a b"}}, {{Name: "a1"}},
		{{Name: "a", Result: api.Val}}, {{Name: "a", Result: -1}}, {{Name: "a", Result: 3}},
		{{Name: "a", Args: []api.Type{3}}}, {{Name: "a", Args: []api.Type{-1}}}, {{Name: "a", Args: []api.Type{0, 0, 0, 0}}},
		{{Name: "a"}, {Name: "a"}}, {{Name: "a"}, {Name: "b"}, {Name: "a", Result: api.Exp}},
		{{Name: "a"}, {Name: "b"}, {Name: "c"}, {Name: "d"}, {Name: "e"}},
	} {
		if p, err := Build(decls, api.Com, nop); err != api.ErrArg || p != nil {
			t.Errorf("declarations %d: %d", i, err)
		}
	}
}

// P1.7: behind ErrArg the errors of Read.
func TestBuildErrors(t *testing.T) {
	decls := []api.Decl{{Name: "p"}, {Name: "e", Result: api.Exp}, {Name: "f", Args: []api.Type{api.Com, api.Val}}}
	one := api.Node{Kind: api.Num, Type: api.Exp, Value: 1}
	nop := api.Node{Kind: api.Skip}
	in := func(outer api.Node, inner ...api.Node) []api.Node { // outer, with a 1 ahead of inner if it is a New
		if outer.Kind == api.New {
			inner = append([]api.Node{one}, inner...)
			outer.Kids = []int{1, 2}
		} else {
			outer.Kids = []int{1}
		}
		for i := range inner {
			inner[i].Kids = slices.Clone(inner[i].Kids)
			for j := range inner[i].Kids {
				inner[i].Kids[j] += len(outer.Kids)
			}
		}
		return append([]api.Node{outer}, inner...)
	}
	fresh := api.Node{Kind: api.New, Name: "x"}
	block := api.Node{Kind: api.Block, Name: "k"}
	freshExp := api.Node{Kind: api.New, Name: "x", Type: api.Exp}
	for i, c := range []struct {
		nodes []api.Node
		want  api.Errno
	}{
		{[]api.Node{{Kind: api.Call, Name: "p"}}, api.OK},
		{[]api.Node{{Kind: api.Call, Name: "q"}}, api.ErrName},
		{[]api.Node{{Kind: api.Call, Name: "e"}}, api.ErrType},
		{[]api.Node{{Kind: api.Call, Name: "p", Type: api.Exp}}, api.ErrType},
		{[]api.Node{{Kind: api.Call, Name: "p", Kids: []int{1}}, one}, api.ErrType},
		{[]api.Node{{Kind: api.Call, Name: "f", Kids: []int{1, 2}}, nop, one}, api.OK},
		{[]api.Node{{Kind: api.Call, Name: "f", Kids: []int{1, 2}}, one, nop}, api.ErrType},
		{[]api.Node{{Kind: api.Call, Name: "f", Kids: []int{1}}, nop}, api.ErrType},
		{[]api.Node{{Kind: api.Read, Name: "q", Type: api.Exp}}, api.ErrName},
		{[]api.Node{{Kind: api.Read, Name: "e", Type: api.Exp}}, api.ErrType},
		{[]api.Node{{Kind: api.Assign, Name: "p", Kids: []int{1}}, one}, api.ErrType},
		{[]api.Node{{Kind: api.Exit, Name: "p"}}, api.ErrType},
		{[]api.Node{{Kind: api.Exit, Name: "k"}}, api.ErrName},
		{in(fresh, api.Node{Kind: api.Assign, Name: "x", Kids: []int{1}}, one), api.OK},
		{in(fresh, api.Node{Kind: api.Call, Name: "x"}), api.ErrType},
		{in(fresh, api.Node{Kind: api.Exit, Name: "x"}), api.ErrType},
		{in(freshExp, api.Node{Kind: api.Read, Type: api.Exp, Name: "x"}), api.OK},
		{in(freshExp, api.Node{Kind: api.Call, Type: api.Exp, Name: "x"}), api.ErrType},
		{in(block, api.Node{Kind: api.Exit, Name: "k"}), api.OK},
		{in(block, api.Node{Kind: api.Call, Name: "k"}), api.ErrType},
		{in(block, api.Node{Kind: api.Assign, Name: "k", Kids: []int{1}}, one), api.ErrType},
	} {
		typ := api.Com
		if len(c.nodes) > 0 {
			typ = c.nodes[0].Type
		}
		if p, err := Build(decls, typ, c.nodes); err != c.want || (p != nil) != (err == api.OK) {
			t.Errorf("nodes %d: %d; want %d", i, err, c.want)
		}
	}
}

// rightRow is a row of steps, put together from the right.
func rightRow(steps int, last api.Node) []api.Node {
	var list []api.Node
	for range steps - 1 {
		at := len(list)
		list = append(list, api.Node{Kind: api.Seq, Kids: []int{at + 1, at + 2}}, api.Node{Kind: api.Skip})
	}
	return append(list, last)
}

// P1.4, P1.7: limits count for the row as it is put together; errors of names come ahead of them, however great the list is.
func TestBuildLimits(t *testing.T) {
	p, err := Build(nil, api.Com, rightRow(api.MaxNodes/2, api.Node{Kind: api.Skip}))
	if err != api.OK || !equal(p, mustRead(t, "|- com : skip"+strings.Repeat("; skip", api.MaxNodes/2-1))) {
		t.Errorf("a row of 300: %d", err)
	}
	for last, want := range map[string]api.Errno{"": api.ErrFull, "q": api.ErrName, "p": api.ErrFull, "e": api.ErrType, "if": api.ErrArg} {
		node := api.Node{Kind: api.Call, Name: last}
		if last == "" {
			node.Kind = api.Stop
		}
		for _, steps := range []int{api.MaxNodes/2 + 1, 100000} {
			if p, err := Build([]api.Decl{{Name: "p"}, {Name: "e", Result: api.Exp}}, api.Com, rightRow(steps, node)); err != want || p != nil {
				t.Errorf("a row of %d, and %q: %d; want %d", steps, last, err, want)
			}
		}
	}
	for levels, want := range map[int]api.Errno{api.MaxNest: api.OK, api.MaxNest + 1: api.ErrFull, 1 << 16: api.ErrFull, 1 << 21: api.ErrFull} {
		var list []api.Node
		for i := range levels - 1 {
			list = append(list, api.Node{Kind: api.Block, Name: "k", Kids: []int{i + 1}})
		}
		if _, err := Build(nil, api.Com, append(list, api.Node{Kind: api.Skip})); err != want {
			t.Errorf("%d levels: %d; want %d", levels, err, want)
		}
		if levels > 1<<16 {
			continue
		}
		if _, err := Build(nil, api.Com, append(list, api.Node{Kind: api.Call, Name: "q"})); err != api.ErrName {
			t.Errorf("%d levels, and a name that is not bound: %d", levels, err)
		}
	}
}

// P1.9: rows in any shape are put together from the left.
func TestRows(t *testing.T) {
	leaf := []api.Node{{Kind: api.Skip}, {Kind: api.Stop}, {Kind: api.Fault}, {Kind: api.While, Kids: []int{1, 2}}, {Kind: api.Num, Type: api.Exp, Value: 2}, {Kind: api.Skip}}
	want := mustRead(t, "|- com : skip; stop; fault; while 2 { skip }").Nodes()
	a, b, c, d := leaf[:1], leaf[1:2], leaf[2:3], leaf[3:]
	for i, list := range [][]api.Node{
		seq(seq(seq(a, b), c), d), seq(seq(a, seq(b, c)), d), seq(seq(a, b), seq(c, d)), seq(a, seq(seq(b, c), d)), seq(a, seq(b, seq(c, d))),
	} {
		p, err := Build(nil, api.Com, list)
		if err != api.OK || !sameNodes(p.Nodes(), want) || p.Text() != "|- com : skip; stop; fault; while 2 { skip }" {
			t.Errorf("shape %d: %d", i, err)
		}
	}
}

// seq puts two lists of nodes behind a Seq.
func seq(a, b []api.Node) []api.Node {
	list := []api.Node{{Kind: api.Seq, Kids: []int{1, 1 + len(a)}}}
	for _, part := range [][]api.Node{a, b} {
		from := len(list)
		for _, n := range copyNodes(part) {
			for i := range n.Kids {
				n.Kids[i] += from
			}
			list = append(list, n)
		}
	}
	return list
}

// T1, P1.8, P1.9: the text of a piece is read back as the same piece; so are its nodes.
func TestReadBack(t *testing.T) {
	count := 0
	for seed := range int64(20000) {
		decls, typ, nodes := sample(seed)
		p, err := Build(decls, typ, nodes)
		if err != api.OK || len(p.Text()) > api.MaxText {
			continue
		}
		count++
		if full(p.Nodes()) {
			t.Fatalf("%q is too great", p.Text())
		}
		if q := mustRead(t, p.Text()); !equal(p, q) || q.Text() != p.Text() {
			t.Fatalf("%q is read as %q", p.Text(), q.Text())
		}
		if q, err := Build(p.Decls(), p.Type(), p.Nodes()); err != api.OK || !equal(p, q) {
			t.Fatalf("%q is not built of its nodes: %d", p.Text(), err)
		}
	}
	if count < 1000 {
		t.Errorf("only %d pieces", count)
	}
}

// P3 of DOC.md: nothing is shared with arguments or among results.
func TestNothingShared(t *testing.T) {
	decls := []api.Decl{{Name: "f", Args: []api.Type{api.Com, api.Val}}, {Name: "a"}}
	nodes := mustRead(t, "f(com, val) : com, a : com |- com : proc g(x : com, y : val) : com { f({ x }, y) } { g({ a }, 1); a }").Nodes()
	decls0, nodes0 := []api.Decl{{Name: "f", Args: []api.Type{api.Com, api.Val}}, {Name: "a"}}, copyNodes(nodes)
	p, _ := Build(decls, api.Com, nodes)
	if !reflect.DeepEqual(decls, decls0) || !sameNodes(nodes, nodes0) {
		t.Fatalf("Build changes its arguments")
	}
	text := p.Text()
	q, _ := Fill(mustRead(t, "hole : com, f(com, val) : com, a : com |- com : hole; hole"), p)
	filled := q.Text()
	spoil(decls, nodes)
	for range 3 {
		if p.Text() != text || q.Text() != filled {
			t.Fatalf("a piece is changed: %q, %q", p.Text(), q.Text())
		}
		spoil(p.Decls(), p.Nodes())
		spoil(q.Decls(), q.Nodes())
	}
}

func spoil(decls []api.Decl, nodes []api.Node) {
	for i := range decls {
		for j := range decls[i].Args {
			decls[i].Args[j] = 7
		}
		_ = append(decls[i].Args[:0], 7)
		decls[i].Name = "z"
	}
	for i := range nodes {
		for j := range nodes[i].Params {
			nodes[i].Params[j] = api.Param{Name: "z"}
		}
		for j := range nodes[i].Kids {
			nodes[i].Kids[j] = -7
		}
		nodes[i].Name = "z"
	}
}

// P1 of DOC.md: nil, and the zero value, are no pieces.
func TestNoPiece(t *testing.T) {
	var none *Piece
	for _, p := range []*Piece{none, {}} {
		if p.Text() != "" || len(p.Nodes()) != 0 || len(p.Decls()) != 0 || p.Type() != api.Com {
			t.Errorf("no piece has a text, nodes, declarations or a type")
		}
	}
}
