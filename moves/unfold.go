package moves

import (
	"doppelganger/api"
	"doppelganger/lang"
)

// nowhere stands in the place of a place, or a state, where there is none.
const nowhere = -1

// mostKids is how many kids a node has at the most: a call its arguments, an If three.
const mostKids = max(api.MaxArgs, 3)

// unfolded is the unfolded term of a piece: its places, each behind the one on which it hangs, the root first.
type unfolded struct {
	decls  []api.Decl
	places []place
}

// spot is where something stands in an unfolded term: which kid it is of which place, and how many values are kept when it is begun.
type spot struct {
	up, turn, kept int
}

// place is a node of an unfolded term.
type place struct {
	spot
	kind   int
	of     int // the value of a Num; where the value is kept of the variable of a Read or an Assign; the place of the Block that an Exit leaves; the number of the declared name of a Call
	kids   [mostKids]int
	inside arguments // in which it stands
}

// unfolder makes an unfolded term. What is still to be put into it stands in a list, as it may nest too deep for functions that call themselves.
type unfolder struct {
	unfolded
	namer
	toPut []func()
}

// putter puts a term into a spot: that of a procedure or a declared name with some arguments, that of a parameter or an argument without any.
type putter func(s spot, args []putter)

// meaning is what a name stands for, within what the names around it stand for.
type meaning struct {
	outer *meaning
	by    binder
	at    int    // where the value of a variable is kept; the place of a block
	put   putter // of what is called
}

// find returns the meaning of what a binder binds.
func (m *meaning) find(by binder) *meaning {
	for m.by != by {
		m = m.outer
	}
	return m
}

// unfold returns the unfolded term of a piece.
func unfold(p *lang.Piece) unfolded {
	decls := p.Decls()
	u := &unfolder{unfolded: unfolded{decls: decls}, namer: *newNamer(p.Nodes(), decls)}
	var names *meaning
	for i := range decls {
		names = &meaning{outer: names, by: binder{declared, i}, put: u.asks(i)}
	}
	u.later(0, names, spot{up: nowhere})
	for len(u.toPut) > 0 {
		last := len(u.toPut) - 1
		put := u.toPut[last]
		u.toPut = u.toPut[:last]
		put()
	}
	return u.unfolded
}

// later has a node of the piece put into a spot.
func (u *unfolder) later(node int, names *meaning, s spot) {
	u.toPut = append(u.toPut, func() { u.put(node, names, s) })
}

// put puts a node of the piece into a spot, and has its kids put.
func (u *unfolder) put(node int, names *meaning, s spot) {
	n := &u.nodes[node]
	switch {
	case u.alone[node].parameter():
		names.find(u.alone[node]).put(s, nil)
	case n.Kind == api.Proc:
		u.later(n.Kids[1], &meaning{outer: names, by: binder{at: node}, put: u.runs(node, names)}, s)
	case n.Kind == api.Call:
		names.find(u.by[node]).put(s, u.handedOver(n.Kids, names))
	default:
		at := u.add(s, n.Kind, u.detail(node, names))
		for turn, kid := range n.Kids {
			u.putKid(node, turn, kid, names, spot{at, turn, s.kept})
		}
	}
}

// putKid has a kid of a node put into a spot, with what is bound and kept there.
func (u *unfolder) putKid(node, turn, kid int, names *meaning, s spot) {
	switch u.nodes[node].Kind {
	case api.Block:
		names = &meaning{outer: names, by: binder{at: node}, at: s.up}
	case api.New:
		if turn == 1 {
			names = &meaning{outer: names, by: binder{at: node}, at: s.kept}
			s.kept++
		}
	case api.Add, api.Sub, api.Mul, api.Equal, api.Less:
		s.kept += turn
	}
	u.later(kid, names, s)
}

// detail returns what a place has beside its kind.
func (u *unfolder) detail(node int, names *meaning) int {
	n := &u.nodes[node]
	switch n.Kind {
	case api.Num:
		return n.Value
	case api.Read, api.Assign, api.Exit:
		return names.find(u.by[node]).at
	}
	return 0
}

// handedOver returns what puts the arguments of a call.
func (u *unfolder) handedOver(kids []int, names *meaning) []putter {
	var list []putter
	for _, kid := range kids {
		list = append(list, func(s spot, _ []putter) { u.later(kid, names, s) })
	}
	return list
}

// asks returns what puts calls of a declared name.
func (u *unfolder) asks(number int) putter {
	return func(s spot, args []putter) {
		at := u.add(s, api.Call, number)
		values := 0
		for turn, put := range args {
			if u.decls[number].Args[turn] == api.Val {
				put(spot{at, turn, s.kept + values}, nil)
				values++
			} else {
				put(spot{at, turn, s.kept}, nil)
			}
		}
	}
}

// runs returns what puts calls of a procedure: its body, within variables for the parameters by value.
func (u *unfolder) runs(proc int, outside *meaning) putter {
	return func(s spot, args []putter) {
		n := &u.nodes[proc]
		names := outside
		for i, param := range n.Params {
			names = &meaning{outer: names, by: binder{proc, i + 1}}
			if param.Type != api.Val {
				names.put = args[i]
				continue
			}
			names.at = s.kept
			fresh := u.add(s, api.New, 0)
			args[i](spot{fresh, 0, s.kept}, nil)
			s = spot{fresh, 1, s.kept + 1}
		}
		u.later(n.Kids[0], names, s)
	}
}

// add adds a place to the term.
func (u *unfolder) add(s spot, kind, of int) int {
	at := len(u.places)
	if at == api.MaxInner {
		panic(excess{})
	}
	one := place{spot: s, kind: kind, of: of}
	if s.up != nowhere {
		u.places[s.up].kids[s.turn] = at
		one.inside = u.places[s.up].inside | u.argument(s)
	}
	u.places = append(u.places, one)
	return at
}
