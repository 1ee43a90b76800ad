package tell

import "doppelganger/api"

// term is a node with all that hangs on it.
type term struct {
	api.Node
	kids []term
}

func node(head api.Node, kids ...term) term {
	return term{head, kids}
}

// nodes appends the nodes of a term to a list.
func (t term) nodes(list []api.Node) []api.Node {
	at := len(list)
	list = append(list, t.Node)
	for _, kid := range t.kids {
		list[at].Kids = append(list[at].Kids, len(list))
		list = kid.nodes(list)
	}
	return list
}

func stop() term {
	return node(api.Node{Kind: api.Stop})
}

func fault() term {
	return node(api.Node{Kind: api.Fault})
}

// row returns the row of some steps.
func row(first term, more ...term) term {
	for _, step := range more {
		first = node(api.Node{Kind: api.Seq}, first, step)
	}
	return first
}

// when returns the choice of the first part if all conditions are true, and of the second one otherwise.
func when(yes, no term, conditions ...term) term {
	if len(conditions) == 0 {
		return yes
	}
	return node(api.Node{Kind: api.If}, product(conditions[0], conditions[1:]...), yes, no)
}

// product returns what is true if all factors are: each of them is 0 or 1.
func product(first term, more ...term) term {
	for _, factor := range more {
		first = node(api.Node{Kind: api.Mul, Type: api.Exp}, first, factor)
	}
	return first
}

func number(value int) term {
	return node(api.Node{Kind: api.Num, Type: api.Exp, Value: value})
}

// is returns what is true if a variable has a value.
func is(variable string, value int) term {
	return node(api.Node{Kind: api.Equal, Type: api.Exp}, read(variable), number(value))
}

func read(variable string) term {
	return node(api.Node{Kind: api.Read, Type: api.Exp, Name: variable})
}

func set(variable string, value int) term {
	return node(api.Node{Kind: api.Assign, Name: variable}, number(value))
}

// fresh returns a command within a new variable.
func fresh(variable string, value, block term) term {
	return node(api.Node{Kind: api.New, Name: variable}, value, block)
}

// call returns the call of what has no arguments.
func call(name string, typ api.Type) term {
	return node(api.Node{Kind: api.Call, Type: typ, Name: name})
}
