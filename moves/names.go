package moves

import "doppelganger/api"

// declared stands in the place of a node in the binder that is a declaration.
const declared = -1

// binder is what binds a name: the node at, a New, a Block or a Proc; or a parameter of the Proc at, by its number from 1 on; or a declaration, by its number from 0 on.
type binder struct {
	at, number int
}

// parameter reports whether it is a parameter.
func (b binder) parameter() bool {
	return b.at != declared && b.number > 0
}

// bound is a name and what binds it, within what is bound around it.
type bound struct {
	outer *bound
	name  string
	by    binder
}

// find returns what binds a name, which each name of a piece has.
func (b *bound) find(name string) binder {
	for b.name != name {
		b = b.outer
	}
	return b.by
}

// namer knows of the names that the nodes of a piece use what binds them.
type namer struct {
	nodes []api.Node
	by    []binder // of each node that uses a name
	// alone is the parameter of which nothing but its argument comes in the place of the node, if there is one. Procedures can hand on an argument exponentially often, while nothing is put around it; so it is not followed call by call.
	alone []binder
}

func newNamer(nodes []api.Node, decls []api.Decl) *namer {
	n := &namer{nodes: nodes, by: make([]binder, len(nodes)), alone: make([]binder, len(nodes))}
	var names *bound
	for i, decl := range decls {
		names = &bound{names, decl.Name, binder{declared, i}}
	}
	n.read(0, names)
	return n
}

// read reads a node and all that hangs on it. The body of a procedure stands ahead of all calls of it, so it has been read then.
func (n *namer) read(at int, names *bound) {
	node := &n.nodes[at]
	for turn, kid := range node.Kids {
		n.read(kid, n.within(at, turn, names))
	}
	switch node.Kind {
	case api.Assign, api.Read, api.Call, api.Exit:
		n.by[at] = names.find(node.Name)
	}
	n.alone[at] = n.aloneAt(at)
}

// within returns what is bound in a kid of a node.
func (n *namer) within(at, turn int, names *bound) *bound {
	node := &n.nodes[at]
	switch {
	case node.Kind == api.Proc && turn == 0:
		for i, param := range node.Params {
			names = &bound{names, param.Name, binder{at, i + 1}}
		}
	case node.Kind == api.Proc || node.Kind == api.New && turn == 1 || node.Kind == api.Block:
		names = &bound{names, node.Name, binder{at: at}}
	}
	return names
}

// aloneAt returns the parameter that is alone at a node, of whose kids it is known.
func (n *namer) aloneAt(at int) binder {
	node := &n.nodes[at]
	switch node.Kind {
	case api.Proc:
		return n.alone[node.Kids[1]]
	case api.Call:
		return n.aloneOfCall(node, n.by[at])
	}
	return binder{}
}

func (n *namer) aloneOfCall(call *api.Node, called binder) binder {
	if called.parameter() {
		return called
	}
	if called.at == declared {
		return binder{}
	}
	proc := &n.nodes[called.at]
	for _, param := range proc.Params {
		if param.Type == api.Val {
			return binder{}
		}
	}
	inBody := n.alone[proc.Kids[0]]
	if inBody.parameter() && inBody.at == called.at {
		return n.alone[call.Kids[inBody.number-1]]
	}
	return inBody
}
