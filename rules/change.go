package rules

import (
	"iter"
	"slices"

	"doppelganger/api"
	"doppelganger/lang"
)

// side is the term of a side of a rule.
type side struct {
	nodes  []api.Node
	calls  []bool              // of each node, whether it calls an unknown
	around map[string][]string // of each unknown that is called, the names that are bound around its calls
}

func newSide(p *lang.Piece) side {
	s := side{nodes: p.Nodes(), around: map[string][]string{}}
	s.calls = make([]bool, len(s.nodes))
	eachNode(s.nodes, func(n api.Node, at int, bound []string) {
		// What a side does not bind itself it declares, and what it declares are unknowns.
		if n.Kind == api.Call && !slices.Contains(bound, n.Name) {
			s.calls[at] = true
			s.around[n.Name] = append(s.around[n.Name], bound...)
		}
	})
	return s
}

// callsAllOf reports whether a side calls all unknowns that another one calls.
func (s side) callsAllOf(other side) bool {
	for unknown := range other.around {
		if _, calls := s.around[unknown]; !calls {
			return false
		}
	}
	return true
}

// change puts one side of a rule in the place of the other one.
type change struct {
	from, to side
}

// stands is what unknowns stand for: the nodes of a term each.
type stands map[string][]api.Node

// match reports whether the term of a node matches, and returns what the unknowns stand for then.
func (c change) match(nodes []api.Node, node int) (found stands, fits bool) {
	// No term is shorter than a side that it matches, so most terms need no closer look.
	if len(termOf(nodes, node)) < len(c.from.nodes) {
		return nil, false
	}
	found = stands{}
	var walk func(at, node int) bool
	walk = func(at, node int) bool {
		one, other := c.from.nodes[at], nodes[node]
		fits := false
	fitting:
		switch {
		case c.from.calls[at]:
			term := termOf(nodes, node)
			before, known := found[one.Name]
			found[one.Name] = term
			fits = one.Type == other.Type && (!known || equal(before, term))
		case alike(one, other):
			for turn, kid := range one.Kids {
				if !walk(kid, other.Kids[turn]) {
					break fitting
				}
			}
			fits = true
		}
		return fits
	}
	fits = walk(0, node)
	return found, fits
}

// catches reports whether a name that is free in what an unknown stands for is bound around a call of this unknown, in either side.
func (c change) catches(found stands) bool {
	for unknown, term := range found {
		bound := slices.Concat(c.from.around[unknown], c.to.around[unknown])
		if len(bound) > 0 && common(bound, free(term)) {
			return true
		}
	}
	return false
}

// common reports whether a name is in two lists.
func common(some, others []string) bool {
	return slices.ContainsFunc(some, func(name string) bool { return slices.Contains(others, name) })
}

// parts yields, one behind the other, the nodes of the other side, with what was found in the places of the unknowns.
func (c change) parts(found stands) iter.Seq[[]api.Node] {
	return func(yield func([]api.Node) bool) {
		for at, one := range c.to.nodes {
			part := c.to.nodes[at : at+1]
			if c.to.calls[at] {
				part = found[one.Name]
			}
			if !yield(part) {
				return
			}
		}
	}
}

// length returns how many nodes the other side has with what was found.
func (c change) length(found stands) int {
	length := 0
	for part := range c.parts(found) {
		length += len(part)
	}
	return length
}

// put returns the nodes in which the other side, with what was found, stands in the place of the term of a node.
func (c change) put(nodes []api.Node, node int, found stands) []api.Node {
	list := slices.Clone(nodes[:node])
	for part := range c.parts(found) {
		list = append(list, part...)
	}
	list = append(list, nodes[node+len(termOf(nodes, node)):]...)
	return numbered(list)
}
