package lang

import (
	"strings"
	"testing"

	"doppelganger/api"
)

// wantFill checks what comes of a context and a piece: a text, or an error.
func wantFill(t *testing.T, context, piece, want string, wantErr api.Errno) {
	t.Helper()
	c, p := mustRead(t, context), mustRead(t, piece)
	before := c.Text() + p.Text()
	q, err := Fill(c, p)
	if err != wantErr || (q != nil) != (err == api.OK) || q.Text() != want {
		t.Errorf("Fill of %q with %q: %d, %q; want %d, %q", context, piece, err, q.Text(), wantErr, want)
	}
	if c.Text()+p.Text() != before {
		t.Errorf("Fill changes its arguments")
	}
}

// P1.10: a piece stands in the place of each call of hole.
func TestFill(t *testing.T) {
	for _, c := range [][3]string{
		{"hole : com |- com : hole", "|- com : skip", "|- com : skip"},
		{"hole : exp |- exp : hole", "|- exp : 1 + 2", "|- exp : 1 + 2"},
		{"hole : exp |- exp : hole * hole", "|- exp : 1 + 2", "|- exp : (1 + 2) * (1 + 2)"},
		{"hole : exp |- com : new x = hole { x := hole + x }", "|- exp : 1", "|- com : new x = 1 { x := 1 + x }"},
		{"hole : com |- exp : do { hole } [ 1 ]", "|- com : skip", "|- exp : do { skip } [ 1 ]"},
		{"hole : com, p : com |- com : hole; hole", "p : com |- com : p; p", "p : com |- com : p; p; p; p"},
		{"hole : com |- com : stop; hole; stop", "|- com : skip; fault; skip", "|- com : stop; skip; fault; skip; stop"},
		{"hole : com |- com : skip", "p : com |- com : p", "|- com : skip"}, // no call, and so nothing that has to be bound
		{"hole : com, a : exp |- com : hole", "a : exp |- com : skip", "a : exp |- com : skip"},
		{"hole : com, f(com) : com |- com : f({ hole })", "|- com : skip; stop", "f(com) : com |- com : f({ skip; stop })"},
		{"f(com) : com, hole : com, g(val, exp) : exp |- com : f({ hole })", "g(val, exp) : exp, f(com) : com |- com : f({ new x = g(1, 2) { skip } })", "f(com) : com, g(val, exp) : exp |- com : f({ f({ new x = g(1, 2) { skip } }) })"},
		// Procedures and parameters bind, too.
		{"hole : com |- com : proc p() : com { stop } { hole }", "p : com |- com : p; p", "|- com : proc p() : com { stop } { p; p }"},
		{"hole : com |- com : proc f(a : com, b : exp, c : val) : exp [ b ] { hole }", "f(com, exp, val) : exp |- com : new x = f({ skip }, 1, 2) { skip }", "|- com : proc f(a : com, b : exp, c : val) : exp [ b ] { new x = f({ skip }, 1, 2) { skip } }"},
		{"hole : com, p : com |- com : proc f(p : com) : com { hole } { f({ hole }) }", "p : com |- com : p; p", "p : com |- com : proc f(p : com) : com { p; p } { f({ p; p }) }"},
		{"hole : exp |- exp : proc f(p : exp) : exp [ hole ] [ f(1) ]", "p : exp |- exp : p", "|- exp : proc f(p : exp) : exp [ p ] [ f(1) ]"},
		// Calls of what hides hole stay.
		{"hole : com, p : com |- com : proc hole() : com { skip } { hole }", "p : com |- com : p", "p : com |- com : proc hole() : com { skip } { hole }"},
		{"hole : com |- com : proc hole() : com { hole } { hole }; hole", "|- com : stop", "|- com : proc hole() : com { stop } { hole }; stop"},
		{"hole : com |- com : proc f(hole : com) : com { hole } { f({ hole }) }", "|- com : stop", "|- com : proc f(hole : com) : com { hole } { f({ stop }) }"},
		{"hole : com |- com : hole; new hole = 1 { hole := hole }", "|- com : stop", "|- com : stop; new hole = 1 { hole := hole }"},
		{"hole : com |- com : block hole { exit hole }; hole", "|- com : stop", "|- com : block hole { exit hole }; stop"},
		// The piece's own bindings stay its own.
		{"hole : com, x : exp |- com : hole; hole", "x : exp |- com : new x = x { x := x + 1 }", "x : exp |- com : new x = x { x := x + 1 }; new x = x { x := x + 1 }"},
		{"hole : com |- com : new x = 1 { hole; x := 2 }", "|- com : new x = 2 { x := 3 }", "|- com : new x = 1 { new x = 2 { x := 3 }; x := 2 }"},
		{"hole : com |- com : hole", "|- com : proc hole() : com { skip } { hole }", "|- com : proc hole() : com { skip } { hole }"},
	} {
		wantFill(t, c[0], c[1], c[2], api.OK)
	}
}

// P1.10: errors, and their order.
func TestFillErrors(t *testing.T) {
	for _, c := range []struct {
		context, piece string
		want           api.Errno
	}{
		{"p : com |- com : p", "p : com |- com : p", api.ErrNone},
		{"|- com : skip", "|- exp : 1", api.ErrNone},
		{"hole(com) : com |- com : hole({ skip })", "|- com : skip", api.ErrNone},
		{"|- com : proc hole() : com { skip } { hole }", "|- com : skip", api.ErrNone},
		{"hole : exp |- exp : hole", "|- com : skip", api.ErrType},
		{"hole : com |- exp : do { hole } [ 1 ]", "|- exp : 1", api.ErrType},
		{"hole : com |- com : skip", "|- exp : 1", api.ErrType},
		{"hole : com |- com : hole", "p : com |- com : p; p", api.ErrName},
		{"hole : com |- com : hole", "p : com |- com : skip", api.ErrName},
		{"hole : com |- com : hole; proc p() : com { skip } { hole }", "p : com |- com : skip", api.ErrName},
		{"hole : com |- com : proc p() : com { hole } { hole }", "p : com |- com : skip", api.ErrName},
		{"hole : com |- com : new p = 0 { hole }", "p : com |- com : p", api.ErrType},
		{"hole : exp |- exp : new p = 0 [ hole ]", "p : exp |- exp : p", api.ErrType},
		{"hole : exp |- exp : proc f(p : val) : exp [ hole ] [ f(1) ]", "p : exp |- exp : p", api.ErrType},
		{"hole : com |- com : block p { hole }", "p : com |- com : p", api.ErrType},
		{"hole : com, p : exp |- com : hole", "p : com |- com : p", api.ErrType},
		{"hole : com, p(com) : com |- com : hole", "p : com |- com : p", api.ErrType},
		{"hole : com, p : com |- com : hole", "p(com) : com |- com : skip", api.ErrType},
		{"hole : com, p(com) : com |- com : hole", "p(exp) : com |- com : skip", api.ErrType},
		{"hole : com, p(exp) : com |- com : hole", "p(val) : com |- com : skip", api.ErrType},
		{"hole : com, p(val) : com |- com : hole", "p(exp) : com |- com : skip", api.ErrType},
		{"hole : com |- com : proc p(a : exp) : com { skip } { hole }", "p(val) : com |- com : skip", api.ErrType},
		{"hole : com |- com : proc p(a : exp) : com { skip } { hole }", "p(exp, exp) : com |- com : skip", api.ErrType},
		{"hole : com |- com : proc p(a : exp) : com { skip } { hole }", "p(exp) : exp |- com : skip", api.ErrType},
		{"hole : com |- com : proc f(p : com) : com { hole } { skip }", "p(com) : com |- com : skip", api.ErrType},
		{"hole : com |- com : proc f(p : com) : com { hole } { skip }", "p : exp |- com : skip", api.ErrType},
		{"hole : com, p : com |- com : proc f(p : exp) : com { hole } { skip }", "p : com |- com : skip", api.ErrType},
		// A piece that declares hole: the declaration of hole does not bind it.
		{"hole : com |- com : hole", "hole : com |- com : hole", api.ErrName},
		{"hole : com |- com : hole", "hole : exp |- com : skip", api.ErrName},
		// The first one, by calls of hole, then by names.
		{"hole : com, b : exp |- com : hole", "a : com, b : com |- com : skip", api.ErrName},
		{"hole : com, a : exp |- com : hole", "a : com, b : com |- com : skip", api.ErrType},
		{"hole : com, a : com |- com : new a = 1 { hole }; hole", "a : com, b : com |- com : skip", api.ErrType},
		{"hole : com, a : com |- com : hole; new a = 1 { hole }", "a : com, b : com |- com : skip", api.ErrName},
	} {
		wantFill(t, c.context, c.piece, "", c.want)
	}
	c, p := mustRead(t, "hole : com |- com : hole"), mustRead(t, "|- com : skip")
	none := &Piece{}
	for _, pair := range [][2]*Piece{{nil, p}, {c, nil}, {nil, nil}, {none, p}, {c, none}, {p, nil}, {none, none}} {
		if q, err := Fill(pair[0], pair[1]); err != api.ErrArg || q != nil {
			t.Errorf("Fill of no piece: %d", err)
		}
	}
}

// P1.10: limits count for what is filled, rows put together from the left, and come behind the errors of names.
func TestFillLimits(t *testing.T) {
	row := func(steps int, step string) string { return strings.Repeat(step+"; ", steps-1) + step }
	ten := mustRead(t, "|- com : "+row(10, "skip"))
	q, err := Fill(mustRead(t, "hole : com |- com : "+row(30, "hole")), ten)
	if err != api.OK || !equal(q, mustRead(t, "|- com : "+row(300, "skip"))) {
		t.Errorf("thirty times ten: %d", err)
	}
	if q, err := Fill(mustRead(t, "hole : com |- com : "+row(31, "hole")), ten); err != api.ErrFull || q != nil {
		t.Errorf("thirty-one times ten: %d", err)
	}
	great := mustRead(t, "|- com : "+row(300, "skip"))
	if _, err := Fill(mustRead(t, "hole : com |- com : "+row(300, "hole")), great); err != api.ErrFull {
		t.Errorf("three hundred times three hundred: %d", err)
	}
	nest := func(levels int, inner string) string {
		return strings.Repeat("block k { ", levels) + inner + strings.Repeat(" }", levels)
	}
	deep := mustRead(t, "|- com : "+nest(30, "skip; skip"))
	for levels, want := range map[int]api.Errno{api.MaxNest - 32: api.OK, api.MaxNest - 31: api.ErrFull} {
		if _, err := Fill(mustRead(t, "hole : com |- com : "+nest(levels, "hole")), deep); err != want {
			t.Errorf("%d levels around 32: %d; want %d", levels, err, want)
		}
	}
	if _, err := Fill(mustRead(t, "hole : com |- com : "+nest(58, "hole; skip")), mustRead(t, "|- com : skip; skip")); err != api.OK {
		t.Errorf("a row in a row stands at its level: %d", err)
	}
	if _, err := Fill(mustRead(t, "hole : com |- com : "+row(300, "hole")), mustRead(t, "a : com |- com : "+row(300, "skip"))); err != api.ErrName {
		t.Errorf("too great, and not bound: %d", err)
	}
}

// P1.10, P1.9: random contexts are filled as their nodes are, one in the place of another.
func TestFillOracle(t *testing.T) {
	counts := map[api.Errno]int{}
	pieces := samples(t, 400, "")
	for _, context := range samples(t, 400, "hole") {
		for i, piece := range pieces {
			if i%7 != counts[api.OK]%7 {
				continue
			}
			want, wantErr := filled(t, context, piece)
			got, err := Fill(context, piece)
			counts[err]++
			if err != wantErr || err == api.OK && !equal(got, want) {
				t.Fatalf("Fill of %q with %q: %d; want %d", context.Text(), piece.Text(), err, wantErr)
			}
		}
	}
	if counts[api.OK] < 100 || counts[api.ErrName] < 100 || counts[api.ErrType] < 100 || counts[api.ErrNone] < 100 {
		t.Errorf("too few of a sort: %v", counts)
	}
}

// samples are random pieces; if a name is told, it stands where d did.
func samples(t *testing.T, count int, name string) []*Piece {
	var list []*Piece
	for seed := int64(0); len(list) < count; seed++ {
		decls, typ, nodes := sample(seed)
		p, err := Build(decls, typ, nodes)
		if err != api.OK || seed%3 > 0 && len(p.Decls()) == 0 {
			continue
		}
		if name != "" {
			decls, nodes = p.Decls(), p.Nodes()
			for i := range decls {
				decls[i].Name = strings.Replace(decls[i].Name, "d", name, 1)
			}
			for i := range nodes {
				nodes[i].Name = strings.Replace(nodes[i].Name, "d", name, 1)
				for j := range nodes[i].Params {
					nodes[i].Params[j].Name = strings.Replace(nodes[i].Params[j].Name, "d", name, 1)
				}
			}
			if p, err = Build(decls, typ, nodes); err != api.OK {
				t.Fatalf("a name cannot be changed: %d", err)
			}
		}
		list = append(list, p)
	}
	return list
}

// filled fills a context by its nodes.
func filled(t *testing.T, context, piece *Piece) (*Piece, api.Errno) {
	decls, nodes := context.Decls(), context.Nodes()
	var rest []api.Decl
	err := api.ErrNone
	for _, d := range decls {
		if d.Name == "hole" && len(d.Args) == 0 {
			err = api.OK
			if d.Result != piece.Type() {
				err = api.ErrType
			}
		} else {
			rest = append(rest, d)
		}
	}
	if err != api.OK {
		return nil, err
	}
	holes := map[int]bool{}
	for i, n := range nodes {
		if b := bound(decls, nodes, i, n.Name); n.Kind == api.Call && b.decl != nil && n.Name == "hole" {
			holes[i] = true
			for _, d := range piece.Decls() {
				if err := around(bound(rest, nodes, i, d.Name), d); err != api.OK {
					return nil, err
				}
			}
		}
	}
	q, err := Build(rest, context.Type(), spliced(nodes, 0, holes, piece.Nodes()))
	if err != api.OK && err != api.ErrFull {
		t.Fatalf("%q filled with %q: %d", context.Text(), piece.Text(), err)
	}
	return q, err
}

func around(b *binder, d api.Decl) api.Errno {
	if b == nil {
		return api.ErrName
	}
	if b.isVariable() || b.isLabel() {
		return api.ErrType
	}
	args, result := b.takes()
	if !sameDecls([]api.Decl{{Args: args, Result: result}}, []api.Decl{{Args: d.Args, Result: d.Result}}) {
		return api.ErrType
	}
	return api.OK
}

// spliced is the term of a node, with others in the places of some nodes.
func spliced(nodes []api.Node, at int, holes map[int]bool, other []api.Node) []api.Node {
	if holes[at] {
		return other
	}
	list := []api.Node{tidy(nodes[at])}
	list[0].Kids = nil
	for _, kid := range nodes[at].Kids {
		from := len(list)
		list[0].Kids = append(list[0].Kids, from)
		for _, n := range copyNodes(spliced(nodes, kid, holes, other)) {
			for i := range n.Kids {
				n.Kids[i] += from
			}
			list = append(list, n)
		}
	}
	return list
}
