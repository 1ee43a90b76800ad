package lang

import (
	"math/rand"
	"reflect"
	"testing"

	"doppelganger/api"
)

// mustRead reads a text that is right.
func mustRead(t *testing.T, text string) *Piece {
	t.Helper()
	p, err := Read(text)
	if err != api.OK || p == nil {
		t.Fatalf("Read(%q): %d", text, err)
	}
	return p
}

// wantRead checks what Read says of a text.
func wantRead(t *testing.T, text string, want api.Errno) {
	t.Helper()
	p, err := Read(text)
	if err != want || (p != nil) != (want == api.OK) {
		t.Errorf("Read(%.100q): %d; want %d", text, err, want)
	}
}

// wantText checks the plain text of what is read.
func wantText(t *testing.T, text, want string) {
	t.Helper()
	if got := mustRead(t, text).Text(); got != want {
		t.Errorf("Text of %q: %q; want %q", text, got, want)
	}
}

// equal reports whether two pieces are equal, as P1.9 has it.
func equal(p, q *Piece) bool {
	return sameDecls(p.Decls(), q.Decls()) && p.Type() == q.Type() && sameNodes(p.Nodes(), q.Nodes())
}

func sameDecls(a, b []api.Decl) bool {
	if len(a) != len(b) {
		return false
	}
	for i := range a {
		a[i].Args = append([]api.Type{}, a[i].Args...)
		b[i].Args = append([]api.Type{}, b[i].Args...)
		if !reflect.DeepEqual(a[i], b[i]) {
			return false
		}
	}
	return true
}

func sameNodes(a, b []api.Node) bool {
	if len(a) != len(b) {
		return false
	}
	for i := range a {
		if !reflect.DeepEqual(tidy(a[i]), tidy(b[i])) {
			return false
		}
	}
	return true
}

// tidy returns a copy of a node in which no slice is nil.
func tidy(n api.Node) api.Node {
	n.Params = append([]api.Param{}, n.Params...)
	n.Kids = append([]int{}, n.Kids...)
	return n
}

func copyNodes(nodes []api.Node) []api.Node {
	var list []api.Node
	for _, n := range nodes {
		list = append(list, tidy(n))
	}
	return list
}

// maker makes random lists of nodes that are well formed; their names may be bound or not.
type maker struct {
	*rand.Rand
	nodes []api.Node
}

func (m *maker) name() string {
	return string(rune('a' + m.Intn(4)))
}

func (m *maker) pick(kinds ...int) int {
	return kinds[m.Intn(len(kinds))]
}

// add adds a node of a type, with kids, of which no one is deeper than depth.
func (m *maker) add(typ api.Type, depth int) {
	n := api.Node{Type: typ}
	if typ == api.Com {
		n.Kind = m.pick(api.Skip, api.Stop, api.Fault, api.Exit, api.Call, api.Assign, api.Seq, api.Seq, api.If, api.While, api.New, api.Proc, api.Block)
	} else {
		n.Kind = m.pick(api.Num, api.Stop, api.Fault, api.Exit, api.Call, api.Read, api.Read, api.Add, api.Sub, api.Mul, api.Equal, api.Less, api.Do, api.If, api.New, api.Proc)
	}
	if depth <= 0 {
		n.Kind = m.pick(api.Exit, api.Call)
	}
	kids := m.fill(&n)
	if n.Kind == api.Call && depth > 0 {
		for range m.Intn(3) {
			kids = append(kids, api.Type(m.Intn(2)))
		}
	}
	at := len(m.nodes)
	m.nodes = append(m.nodes, n)
	for _, kid := range kids {
		m.nodes[at].Kids = append(m.nodes[at].Kids, len(m.nodes))
		m.add(kid, depth-1)
	}
}

// fill fills the fields of a node in, and returns the types of its kids.
func (m *maker) fill(n *api.Node) []api.Type {
	switch n.Kind {
	case api.Assign, api.New, api.Call, api.Proc, api.Read, api.Block, api.Exit:
		n.Name = m.name()
	case api.Num:
		n.Value = m.Intn(api.Width)
	}
	switch n.Kind {
	case api.Seq:
		return []api.Type{api.Com, api.Com}
	case api.Assign:
		return []api.Type{api.Exp}
	case api.If:
		return []api.Type{api.Exp, n.Type, n.Type}
	case api.While:
		return []api.Type{api.Exp, api.Com}
	case api.New:
		return []api.Type{api.Exp, n.Type}
	case api.Proc:
		n.Result = api.Type(m.Intn(2))
		for i := range m.Intn(3) {
			n.Params = append(n.Params, api.Param{Name: string(rune('a' + (i+m.Intn(2)*2)%4)), Type: api.Type(m.Intn(3))})
		}
		if len(n.Params) == 2 && n.Params[0].Name == n.Params[1].Name {
			n.Params = n.Params[:1]
		}
		return []api.Type{n.Result, n.Type}
	case api.Add, api.Sub, api.Mul, api.Equal, api.Less:
		return []api.Type{api.Exp, api.Exp}
	case api.Do:
		return []api.Type{api.Com, api.Exp}
	case api.Block:
		return []api.Type{api.Com}
	}
	return nil
}

// sample makes declarations and a list of nodes of a type.
func sample(seed int64) ([]api.Decl, api.Type, []api.Node) {
	m := &maker{Rand: rand.New(rand.NewSource(seed))}
	var decls []api.Decl
	for i := range m.Intn(4) {
		d := api.Decl{Name: string(rune('d' - i)), Result: api.Type(m.Intn(2))}
		for range m.Intn(3) {
			d.Args = append(d.Args, api.Type(m.Intn(3)))
		}
		decls = append(decls, d)
	}
	typ := api.Type(m.Intn(2))
	m.add(typ, 1+m.Intn(4))
	meant(decls, m.nodes)
	return decls, typ, m.nodes
}

// binder is what binds a name at a node: a declaration, or a node; and the parameter, if it is one.
type binder struct {
	decl  *api.Decl
	node  *api.Node
	param *api.Param
}

func (b *binder) isVariable() bool {
	return b != nil && (b.node != nil && b.node.Kind == api.New || b.param != nil && b.param.Type == api.Val)
}

func (b *binder) isLabel() bool {
	return b != nil && b.node != nil && b.node.Kind == api.Block
}

// takes returns the types of the arguments, and that of the result.
func (b *binder) takes() (args []api.Type, result api.Type) {
	switch {
	case b.decl != nil:
		return b.decl.Args, b.decl.Result
	case b.param != nil:
		return nil, b.param.Type
	}
	for _, p := range b.node.Params {
		args = append(args, p.Type)
	}
	return args, b.node.Result
}

// bound returns what binds a name at a node: it goes outwards, from kid to parent.
func bound(decls []api.Decl, nodes []api.Node, at int, name string) *binder {
	for at > 0 {
		parent, place := parentOf(nodes, at)
		n := &nodes[parent]
		switch {
		case n.Kind == api.New && place == 1 && n.Name == name, n.Kind == api.Block && n.Name == name, n.Kind == api.Proc && place == 1 && n.Name == name:
			return &binder{node: n}
		case n.Kind == api.Proc && place == 0:
			for i := range n.Params {
				if n.Params[i].Name == name {
					return &binder{param: &n.Params[i]}
				}
			}
		}
		at = parent
	}
	for i := range decls {
		if decls[i].Name == name {
			return &binder{decl: &decls[i]}
		}
	}
	return nil
}

func parentOf(nodes []api.Node, at int) (parent, place int) {
	for i, n := range nodes {
		for j, kid := range n.Kids {
			if kid == at {
				return i, j
			}
		}
	}
	return -1, -1
}

// meant makes names that stand alone as expressions what a text means by them: reads of variables, otherwise calls.
func meant(decls []api.Decl, nodes []api.Node) {
	for i := range nodes {
		n := &nodes[i]
		if n.Type == api.Exp && len(n.Kids) == 0 && (n.Kind == api.Call || n.Kind == api.Read) {
			n.Kind = api.Call
			if bound(decls, nodes, i, n.Name).isVariable() {
				n.Kind = api.Read
			}
		}
	}
}

// misnamed is the first error of names, by way of bound.
func misnamed(decls []api.Decl, nodes []api.Node) api.Errno {
	for i, n := range nodes {
		b := bound(decls, nodes, i, n.Name)
		fits := true
		switch n.Kind {
		case api.Assign, api.Read:
			fits = b.isVariable()
		case api.Exit:
			fits = b.isLabel()
		case api.Call:
			fits = b != nil && called(b, n, nodes)
		default:
			continue
		}
		if b == nil {
			return api.ErrName
		}
		if !fits {
			return api.ErrType
		}
	}
	return api.OK
}

func called(b *binder, n api.Node, nodes []api.Node) bool {
	if b.isVariable() || b.isLabel() {
		return false
	}
	args, result := b.takes()
	if result != n.Type || len(args) != len(n.Kids) {
		return false
	}
	for i, kid := range n.Kids {
		want := args[i]
		if want == api.Val {
			want = api.Exp
		}
		if nodes[kid].Type != want {
			return false
		}
	}
	return true
}

// full reports whether a list of nodes, whose rows are put together from the left, has too many nodes or levels.
func full(nodes []api.Node) bool {
	levels := make([]int, len(nodes))
	for i, n := range nodes {
		if i == 0 {
			levels[0] = 1
		}
		for j, kid := range n.Kids {
			levels[kid] = levels[i] + 1
			if n.Kind == api.Seq && nodes[kid].Kind == api.Seq && j == 0 {
				levels[kid] = levels[i]
			}
		}
		if levels[i] > api.MaxNest {
			return true
		}
	}
	return len(nodes) > api.MaxNodes
}
