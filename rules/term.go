package rules

import (
	"slices"

	"doppelganger/api"
)

// termOf returns the term of a node: the node, and all that hangs on it.
func termOf(nodes []api.Node, at int) []api.Node {
	last := at
	for len(nodes[last].Kids) > 0 {
		kids := nodes[last].Kids
		last = kids[len(kids)-1]
	}
	return nodes[at : last+1]
}

// equal reports whether two terms are the same, node by node.
func equal(a, b []api.Node) bool {
	return slices.EqualFunc(a, b, alike)
}

// alike reports whether two nodes are the same but for what hangs on them.
func alike(a, b api.Node) bool {
	return a.Kind == b.Kind && a.Type == b.Type && a.Name == b.Name && a.Value == b.Value &&
		slices.Equal(a.Params, b.Params) && a.Result == b.Result && len(a.Kids) == len(b.Kids)
}

// eachNode goes through a term, and shows each of its nodes with the names that are bound there within the term.
func eachNode(term []api.Node, show func(n api.Node, at int, bound []string)) {
	next := 0
	var walk func(bound []string)
	walk = func(bound []string) {
		n := term[next]
		show(n, next, bound)
		next++
		for turn := range n.Kids {
			walk(slices.Concat(bound, binds(n, turn)))
		}
	}
	walk(nil)
}

// binds returns the names that a node binds in one of its kids.
func binds(n api.Node, turn int) []string {
	switch {
	case n.Kind == api.Proc && turn == 0:
		var names []string
		for _, param := range n.Params {
			names = append(names, param.Name)
		}
		return names
	case n.Kind == api.Proc || n.Kind == api.Block || n.Kind == api.New && turn == 1:
		return []string{n.Name}
	}
	return nil
}

// free returns the names that stand free in a term.
func free(term []api.Node) []string {
	var names []string
	eachNode(term, func(n api.Node, _ int, bound []string) {
		switch n.Kind {
		case api.Assign, api.Read, api.Call, api.Exit:
			if !slices.Contains(bound, n.Name) {
				names = append(names, n.Name)
			}
		}
	})
	return names
}

// numbered returns a list of nodes in which the kids have the numbers that they have in this list.
func numbered(list []api.Node) []api.Node {
	next := 0
	var number func()
	number = func() {
		kids := make([]int, len(list[next].Kids))
		list[next].Kids = kids
		next++
		for turn := range kids {
			kids[turn] = next
			number()
		}
	}
	number()
	return list
}
