// Package terms puts terms together of nodes, and lists their nodes as pieces have them.
package terms

import "doppelganger/api"

// Term is a node with all that hangs on it. The node's own list of kids is empty.
type Term struct {
	api.Node
	kids []Term
}

// Of returns the term of a node on which some terms hang.
func Of(head api.Node, kids ...Term) Term {
	return Term{head, kids}
}

// At returns the term of a node of a list.
func At(nodes []api.Node, at int) Term {
	t := Term{Node: nodes[at]}
	t.Kids = nil
	for _, kid := range nodes[at].Kids {
		t.kids = append(t.kids, At(nodes, kid))
	}
	return t
}

// Nodes returns the list of the nodes of a term.
func (t Term) Nodes() []api.Node {
	return t.appendTo(nil)
}

func (t Term) appendTo(list []api.Node) []api.Node {
	at := len(list)
	list = append(list, t.Node)
	for _, kid := range t.kids {
		list[at].Kids = append(list[at].Kids, len(list))
		list = kid.appendTo(list)
	}
	return list
}

// Number returns a number as an expression.
func Number(value int) Term {
	return Of(api.Node{Kind: api.Num, Type: api.Exp, Value: value})
}

// Read returns the value of a variable as an expression.
func Read(variable string) Term {
	return Of(api.Node{Kind: api.Read, Type: api.Exp, Name: variable})
}

// New returns a block within a new variable.
func New(variable string, value, block Term) Term {
	return Of(api.Node{Kind: api.New, Type: block.Type, Name: variable}, value, block)
}

// Call returns the call of a name.
func Call(name string, typ api.Type, args ...Term) Term {
	return Of(api.Node{Kind: api.Call, Type: typ, Name: name}, args...)
}

// Do returns an expression behind a command.
func Do(first, value Term) Term {
	return Of(api.Node{Kind: api.Do, Type: api.Exp}, first, value)
}
