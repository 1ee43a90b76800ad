package rules

import (
	"reflect"
	"slices"

	"doppelganger/api"
	"doppelganger/lang"
)

// refusal is why a rule is not applied.
type refusal int

const (
	accepted   refusal = iota
	misfit             // the rest is not the same, or a type is another one
	unequal            // an unknown stands for several terms
	captured           // a name that is free in the term of an unknown is bound by a side
	unanswered         // the other side calls more
)

// apply is a second way to apply a rule, with trees: it looks for all places of the unknowns first, and then, in both sides with the terms in their places, by what their names are bound.
func apply(from, to, p *lang.Piece, node int) (tree, refusal) {
	whole := p.Nodes()
	places := map[string][]tree{}
	if !collect(pieceTree(from), treeOf(whole, node), nil, places) {
		return tree{}, misfit
	}
	stands := map[string]tree{}
	for unknown, terms := range places {
		for _, term := range terms {
			if !reflect.DeepEqual(term.nodes(nil), terms[0].nodes(nil)) {
				return tree{}, unequal
			}
		}
		stands[unknown] = mark(terms[0])
	}
	before, _ := filled(pieceTree(from), nil, stands)
	after, all := filled(pieceTree(to), nil, stands)
	switch {
	case !all:
		return tree{}, unanswered
	case caught(before, nil) || caught(after, nil):
		return tree{}, captured
	}
	next := 0
	return replaced(pieceTree(p), node, after, &next), accepted
}

// collect notes what stands in the places of unknowns, and reports whether all else is the same.
func collect(side, term tree, bound []binding, places map[string][]tree) bool {
	if isUnknown(side, bound) {
		places[side.Name] = append(places[side.Name], term)
		return side.Type == term.Type
	}
	one, other := side.Node, term.Node
	one.Kids, other.Kids = nil, nil
	if len(one.Params) == 0 && len(other.Params) == 0 {
		one.Params, other.Params = nil, nil
	}
	if !reflect.DeepEqual(one, other) || len(side.kids) != len(term.kids) {
		return false
	}
	for turn, kid := range side.kids {
		if !collect(kid, term.kids[turn], slices.Concat(bound, boundIn(side.Node, turn)), places) {
			return false
		}
	}
	return true
}

func isUnknown(t tree, bound []binding) bool {
	return t.Kind == api.Call && !slices.ContainsFunc(bound, func(one binding) bool { return one.name == t.Name })
}

// mark marks all nodes of a term for which an unknown stands.
func mark(t tree) tree {
	t.found = true
	t.kids = slices.Clone(t.kids)
	for i, kid := range t.kids {
		t.kids[i] = mark(kid)
	}
	return t
}

// filled returns a side with terms in the places of unknowns, and whether there is a term for each.
func filled(side tree, bound []binding, stands map[string]tree) (tree, bool) {
	if isUnknown(side, bound) {
		t, known := stands[side.Name]
		return t, known
	}
	all := true
	var kids []tree
	for turn, kid := range side.kids {
		t, known := filled(kid, slices.Concat(bound, boundIn(side.Node, turn)), stands)
		kids = append(kids, t)
		all = all && known
	}
	side.kids = kids
	return side, all
}

// binder is a name that is bound, by a node of a term for which an unknown stands or by one of a side.
type binder struct {
	name  string
	found bool
}

// caught reports whether a name in a term for which an unknown stands is bound by the side.
func caught(t tree, bound []binder) bool {
	switch t.Kind {
	case api.Assign, api.Read, api.Call, api.Exit:
		for _, by := range slices.Backward(bound) {
			if by.name == t.Name {
				if t.found && !by.found {
					return true
				}
				break
			}
		}
	}
	for turn, kid := range t.kids {
		inner := slices.Clone(bound)
		for _, one := range boundIn(t.Node, turn) {
			inner = append(inner, binder{one.name, t.found})
		}
		if caught(kid, inner) {
			return true
		}
	}
	return false
}

// replaced returns a term with another one in the place of its node of some number.
func replaced(t tree, node int, by tree, next *int) tree {
	at := *next
	*next++
	var kids []tree
	for _, kid := range t.kids {
		kids = append(kids, replaced(kid, node, by, next))
	}
	t.kids = kids
	if at == node {
		return by
	}
	return t
}
