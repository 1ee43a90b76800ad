package rules

import (
	"math/rand"
	"slices"

	"doppelganger/api"
	"doppelganger/lang"
)

// tree is a node with all that hangs on it.
type tree struct {
	api.Node
	kids  []tree
	found bool // it stands in a term for which an unknown stands
}

// treeOf returns the tree of a node in a list.
func treeOf(nodes []api.Node, at int) tree {
	t := tree{Node: nodes[at]}
	for _, kid := range nodes[at].Kids {
		t.kids = append(t.kids, treeOf(nodes, kid))
	}
	return t
}

func pieceTree(p *lang.Piece) tree {
	return treeOf(p.Nodes(), 0)
}

// nodes appends the nodes of a tree to a list.
func (t tree) nodes(list []api.Node) []api.Node {
	at := len(list)
	list = append(list, t.Node)
	list[at].Kids = nil
	for _, kid := range t.kids {
		list[at].Kids = append(list[at].Kids, len(list))
		list = kid.nodes(list)
	}
	return list
}

// The sorts of what binds a name.
const (
	called = iota
	variable
	label
)

// binding is what binds a name where a term is made.
type binding struct {
	name   string
	sort   int
	args   []api.Type
	result api.Type
}

func bindingsOf(decls []api.Decl) []binding {
	var list []binding
	for _, decl := range decls {
		list = append(list, binding{decl.Name, called, decl.Args, decl.Result})
	}
	return list
}

// maker makes random terms. There are few names, for whatever sort, so that they often hide one another.
type maker struct {
	*rand.Rand
	scope []binding
	sides [2][]*lang.Piece // of both types, of which it lays some into the terms, with terms in the places of unknowns
}

// use has the maker lay the sides of a rule into its terms.
func (m *maker) use(r rule) {
	typ := r.left.Type()
	m.sides[typ] = append(m.sides[typ], &r.left, &r.right)
}

func (m *maker) name() string {
	return []string{"p", "q", "x", "a", "b", "f", "k"}[m.Intn(7)]
}

// visible returns what is bound and not hidden, of some sort and type.
func (m *maker) visible(sort int, typ api.Type) []binding {
	var list []binding
	for i, one := range m.scope {
		hidden := slices.ContainsFunc(m.scope[i+1:], func(inner binding) bool { return inner.name == one.name })
		if !hidden && one.sort == sort && (sort != called || one.result == typ) {
			list = append(list, one)
		}
	}
	return list
}

func (m *maker) term(typ api.Type, depth int) tree {
	if len(m.sides[typ]) > 0 && m.Intn(3) == 0 {
		side := m.sides[typ][m.Intn(len(m.sides[typ]))]
		return m.laid(pieceTree(side), len(m.scope), depth, map[string]tree{})
	}
	if depth <= 0 || m.Intn(6) == 0 {
		return m.leaf(typ)
	}
	if typ == api.Com {
		return m.com(depth - 1)
	}
	return m.exp(depth - 1)
}

func (m *maker) leaf(typ api.Type) tree {
	var fitting []tree
	for _, one := range m.visible(called, typ) {
		if len(one.args) == 0 {
			fitting = append(fitting, tree{Node: api.Node{Kind: api.Call, Type: typ, Name: one.name}})
		}
	}
	for _, one := range m.visible(label, typ) {
		fitting = append(fitting, tree{Node: api.Node{Kind: api.Exit, Type: typ, Name: one.name}})
	}
	for _, one := range m.visible(variable, typ) {
		read := tree{Node: api.Node{Kind: api.Read, Type: api.Exp, Name: one.name}}
		if typ == api.Com {
			read = tree{Node: api.Node{Kind: api.Assign, Name: one.name}, kids: []tree{number(m.Intn(api.Width))}}
		}
		fitting = append(fitting, read)
	}
	if len(fitting) > 0 && m.Intn(4) > 0 {
		return fitting[m.Intn(len(fitting))]
	}
	switch {
	case m.Intn(8) == 0:
		return tree{Node: api.Node{Kind: []int{api.Stop, api.Fault}[m.Intn(2)], Type: typ}}
	case typ == api.Com:
		return tree{Node: api.Node{Kind: api.Skip}}
	}
	return number(m.Intn(api.Width))
}

func number(value int) tree {
	return tree{Node: api.Node{Kind: api.Num, Type: api.Exp, Value: value}}
}

func (m *maker) com(depth int) tree {
	switch m.Intn(8) {
	case 0, 1, 2:
		return tree{Node: api.Node{Kind: api.Seq}, kids: []tree{m.term(api.Com, depth), m.term(api.Com, depth)}}
	case 3:
		if list := m.visible(variable, api.Exp); len(list) > 0 {
			return tree{Node: api.Node{Kind: api.Assign, Name: list[m.Intn(len(list))].name}, kids: []tree{m.term(api.Exp, depth)}}
		}
	case 4:
		head := api.Node{Kind: api.Block, Name: m.name()}
		return tree{Node: head, kids: []tree{m.within(api.Com, depth, binding{name: head.Name, sort: label})}}
	case 5:
		return tree{Node: api.Node{Kind: api.While}, kids: []tree{m.term(api.Exp, depth), m.term(api.Com, depth)}}
	}
	return m.either(api.Com, depth)
}

func (m *maker) exp(depth int) tree {
	switch m.Intn(4) {
	case 0:
		kind := []int{api.Add, api.Sub, api.Mul, api.Equal, api.Less}[m.Intn(5)]
		return tree{Node: api.Node{Kind: kind, Type: api.Exp}, kids: []tree{m.term(api.Exp, depth), m.term(api.Exp, depth)}}
	case 1:
		return tree{Node: api.Node{Kind: api.Do, Type: api.Exp}, kids: []tree{m.term(api.Com, depth), m.term(api.Exp, depth)}}
	}
	return m.either(api.Exp, depth)
}

// either makes a term of which there is one of each type.
func (m *maker) either(typ api.Type, depth int) tree {
	switch m.Intn(4) {
	case 0:
		return tree{Node: api.Node{Kind: api.If, Type: typ}, kids: []tree{m.term(api.Exp, depth), m.term(typ, depth), m.term(typ, depth)}}
	case 1:
		head := api.Node{Kind: api.New, Type: typ, Name: m.name()}
		return tree{Node: head, kids: []tree{m.term(api.Exp, depth), m.within(typ, depth, binding{name: head.Name, sort: variable})}}
	case 2:
		return m.proc(typ, depth)
	}
	list := m.visible(called, typ)
	if len(list) == 0 {
		return m.leaf(typ)
	}
	one := list[m.Intn(len(list))]
	t := tree{Node: api.Node{Kind: api.Call, Type: typ, Name: one.name}}
	for _, arg := range one.args {
		t.kids = append(t.kids, m.term(min(arg, api.Exp), depth))
	}
	return t
}

func (m *maker) proc(typ api.Type, depth int) tree {
	head := api.Node{Kind: api.Proc, Type: typ, Name: m.name(), Result: api.Type(m.Intn(2))}
	for range m.Intn(3) {
		param := api.Param{Name: m.name(), Type: api.Type(m.Intn(3))}
		if !slices.ContainsFunc(head.Params, func(other api.Param) bool { return other.Name == param.Name }) {
			head.Params = append(head.Params, param)
		}
	}
	body := m.within(head.Result, depth-1, boundIn(head, 0)...)
	return tree{Node: head, kids: []tree{body, m.within(typ, depth, boundIn(head, 1)...)}}
}

// boundIn returns what a node binds in one of its kids.
func boundIn(n api.Node, turn int) []binding {
	switch {
	case n.Kind == api.New && turn == 1:
		return []binding{{name: n.Name, sort: variable}}
	case n.Kind == api.Block:
		return []binding{{name: n.Name, sort: label}}
	case n.Kind == api.Proc && turn == 1:
		one := binding{name: n.Name, sort: called, result: n.Result}
		for _, param := range n.Params {
			one.args = append(one.args, param.Type)
		}
		return []binding{one}
	case n.Kind == api.Proc:
		var list []binding
		for _, param := range n.Params {
			one := binding{name: param.Name, sort: called, result: param.Type}
			if param.Type == api.Val {
				one = binding{name: param.Name, sort: variable}
			}
			list = append(list, one)
		}
		return list
	}
	return nil
}

// within makes a term where more is bound.
func (m *maker) within(typ api.Type, depth int, inner ...binding) tree {
	before := m.scope
	m.scope = slices.Concat(before, inner)
	t := m.term(typ, depth)
	m.scope = before
	return t
}

// laid makes a term of a side: with terms in the places of unknowns, that mostly are the same in all places of one. Their names are those that are bound around the whole side, or at the place of the unknown itself, so some of them do not mean what they should, or nothing at all.
func (m *maker) laid(side tree, outer, depth int, stands map[string]tree) tree {
	isBound := slices.ContainsFunc(m.scope[outer:], func(one binding) bool { return one.name == side.Name })
	if side.Kind == api.Call && !isBound {
		t, known := stands[side.Name]
		if known && m.Intn(8) > 0 {
			return t
		}
		before := m.scope
		switch m.Intn(4) {
		case 0:
			m.scope = before[outer:]
			t = m.leaf(side.Type)
		case 1:
			t = m.term(side.Type, depth-1)
		default:
			m.scope = before[:outer:outer]
			t = m.term(side.Type, depth-1)
		}
		m.scope = before
		stands[side.Name] = t
		return t
	}
	t := tree{Node: side.Node}
	before := m.scope
	for turn, kid := range side.kids {
		m.scope = slices.Concat(before, boundIn(side.Node, turn))
		t.kids = append(t.kids, m.laid(kid, outer, depth, stands))
		m.scope = before
	}
	return t
}

// piece makes a piece; nil if it is none, as its names do not fit, or a limit is in the way.
func (m *maker) piece(decls []api.Decl, typ api.Type, depth int) *lang.Piece {
	m.scope = bindingsOf(decls)
	whole := m.term(typ, depth)
	p, _ := lang.Build(decls, typ, whole.nodes(nil))
	return p
}
