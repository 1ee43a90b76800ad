package lang

import (
	"slices"

	"doppelganger/api"
	"doppelganger/words"
)

// wellFormed reports whether nodes are the list of a term of a type. It goes backwards, so that it is known of each node where all that hangs on its kids ends.
func wellFormed(typ api.Type, nodes []api.Node) bool {
	ends := make([]int, len(nodes))
	for i, node := range slices.Backward(nodes) {
		end := i + 1
		var types []api.Type
		for _, kid := range node.Kids {
			if kid != end || kid == len(nodes) {
				return false
			}
			end = ends[kid]
			types = append(types, nodes[kid].Type)
		}
		ends[i] = end
		if !validNode(node) || !validKids(node, types) {
			return false
		}
	}
	return len(nodes) > 0 && ends[0] == len(nodes) && nodes[0].Type == typ
}

// tooDeep reports whether a list that is well formed nests deeper than anything is promised for. To call oneself so often could end the whole program, and no recover would help.
func tooDeep(nodes []api.Node) bool {
	levels := make([]int, len(nodes))
	for i, node := range nodes {
		below := levels[i] + 1
		if node.Kind == api.Seq {
			below = levels[i]
		}
		if below > 1<<16 {
			return true
		}
		for _, kid := range node.Kids {
			levels[kid] = below
		}
	}
	return false
}

// validNode reports whether a node, but for its kids, is as its kind has it.
func validNode(n api.Node) bool {
	if n.Kind == api.Proc {
		return words.IsName(n.Name) && n.Value == 0 && validParams(n.Params) && validResult(n.Result) && validResult(n.Type)
	}
	if len(n.Params) > 0 || n.Result != 0 {
		return false
	}
	switch n.Kind {
	case api.Stop, api.Fault, api.If:
		return n.Name == "" && n.Value == 0 && validResult(n.Type)
	case api.New, api.Call, api.Exit:
		return words.IsName(n.Name) && n.Value == 0 && validResult(n.Type)
	case api.Assign, api.Block:
		return words.IsName(n.Name) && n.Value == 0 && n.Type == api.Com
	case api.Skip, api.Seq, api.While:
		return n.Name == "" && n.Value == 0 && n.Type == api.Com
	case api.Read:
		return words.IsName(n.Name) && n.Value == 0 && n.Type == api.Exp
	case api.Num:
		return n.Name == "" && n.Value >= 0 && n.Value < api.Width && n.Type == api.Exp
	case api.Add, api.Sub, api.Mul, api.Equal, api.Less, api.Do:
		return n.Name == "" && n.Value == 0 && n.Type == api.Exp
	}
	return false
}

// validKids reports whether the kids of a node may have these types.
func validKids(n api.Node, types []api.Type) bool {
	switch n.Kind {
	case api.Call:
		return len(types) <= api.MaxArgs
	case api.Seq:
		return slices.Equal(types, []api.Type{api.Com, api.Com})
	case api.Assign:
		return slices.Equal(types, []api.Type{api.Exp})
	case api.If:
		return slices.Equal(types, []api.Type{api.Exp, n.Type, n.Type})
	case api.While:
		return slices.Equal(types, []api.Type{api.Exp, api.Com})
	case api.New:
		return slices.Equal(types, []api.Type{api.Exp, n.Type})
	case api.Proc:
		return slices.Equal(types, []api.Type{n.Result, n.Type})
	case api.Add, api.Sub, api.Mul, api.Equal, api.Less:
		return slices.Equal(types, []api.Type{api.Exp, api.Exp})
	case api.Do:
		return slices.Equal(types, []api.Type{api.Com, api.Exp})
	case api.Block:
		return slices.Equal(types, []api.Type{api.Com})
	}
	return len(types) == 0
}

// builder is a list of nodes that is well formed.
type builder []api.Node

// term returns the term of a node.
func (b builder) term(at int) term {
	n := b[at]
	if n.Kind == api.Seq {
		return row{b.steps(at)}
	}
	kids := b.terms(n.Kids)
	switch n.Kind {
	case api.Stop:
		return stop{n.Type}
	case api.Fault:
		return fault{n.Type}
	case api.Assign:
		return assign{n.Name, kids[0]}
	case api.If:
		return choice{n.Type, kids[0], kids[1], kids[2]}
	case api.While:
		return loop{kids[0], kids[1]}
	case api.New:
		return fresh{n.Type, n.Name, kids[0], kids[1]}
	case api.Call:
		return call{n.Type, n.Name, kids}
	case api.Proc:
		return proc{n.Type, n.Name, slices.Clone(n.Params), n.Result, kids[0], kids[1]}
	case api.Num:
		return num{n.Value}
	case api.Read:
		return read{n.Name}
	case api.Add, api.Sub, api.Mul, api.Equal, api.Less:
		return binary{n.Kind, kids[0], kids[1]}
	case api.Do:
		return doing{kids[0], kids[1]}
	case api.Block:
		return labelled{n.Name, kids[0]}
	case api.Exit:
		return exit{n.Type, n.Name}
	}
	return skip{}
}

func (b builder) terms(places []int) []term {
	var list []term
	for _, at := range places {
		t := b.term(at)
		list = append(list, t)
	}
	return list
}

// steps returns the steps of a row, whatever the shape of its Seq nodes. It keeps a list of what is still to come instead of calling itself, as a row may be long.
func (b builder) steps(at int) []term {
	var list []term
	waiting := []int{at}
	for len(waiting) > 0 {
		last := len(waiting) - 1
		first := waiting[last]
		waiting = waiting[:last]
		if b[first].Kind == api.Seq {
			kids := b[first].Kids
			waiting = append(waiting, kids[1], kids[0])
			continue
		}
		step := b.term(first)
		list = append(list, step)
	}
	return list
}
