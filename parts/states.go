package parts

import (
	"slices"

	"doppelganger/api"
	"doppelganger/lang"
	"doppelganger/play"
	"doppelganger/terms"
)

// state is the values of the variables of a module, in the order of the text. Behind them it is 0.
type state [api.MaxHidden]int

// pair is a state of each of two modules.
type pair [2]state

// inOrder compares two pairs, number by number.
func inOrder(p, q pair) int {
	if p[0] != q[0] {
		return slices.Compare(p[0][:], q[0][:])
	}
	return slices.Compare(p[1][:], q[1][:])
}

// first returns the state in which a module begins.
func (m *Module) first() state {
	var s state
	for i, v := range m.variables {
		s[i] = v.value
	}
	return s
}

// values returns the values of the variables in a state.
func (m *Module) values(s state) []int {
	return slices.Clone(s[:len(m.variables)])
}

// outcome is what an operation leads to: a state, or none.
type outcome struct {
	state state
	ends  bool
}

// run runs an operation in a state, and returns what it leads to.
func (m *Module) run(op operation, in state) (outcome, api.Errno) {
	_, ends, err := m.ask(op, in, terms.Number(0))
	end := outcome{ends: ends}
	if err != api.OK || !ends {
		return end, err
	}
	for i, v := range m.variables {
		// A variable is read in one step, as the 0 was.
		end.state[i], _, err = m.ask(op, in, terms.Read(v.name))
		if err != api.OK {
			return outcome{}, err
		}
	}
	return end, api.OK
}

// ask runs an operation in a state, and returns the value that an expression has then, if it ends.
func (m *Module) ask(op operation, in state, what terms.Term) (value int, ends bool, err api.Errno) {
	p, err := m.program(op, in, what)
	if err != api.OK {
		return 0, false, err
	}
	result, value, _, err := play.Run(p)
	return value, result == api.Done, err
}

// program returns the program that runs an operation in a state, and an expression then.
func (m *Module) program(op operation, in state, what terms.Term) (*lang.Piece, api.Errno) {
	first := op.body
	if first.Type == api.Exp {
		first = terms.New(client, first, terms.Of(api.Node{Kind: api.Skip}))
	}
	whole := m.around(in, terms.Do(first, what))
	return lang.Build(nil, api.Exp, whole.Nodes())
}

// known is a module with what is known of its operations in states.
type known struct {
	*Module
	outcomes map[state][]outcome
}

func newKnown(m *Module) known {
	return known{m, map[state][]outcome{}}
}

// all returns what the operations lead to in a state, one by one.
func (k known) all(in state) ([]outcome, api.Errno) {
	if list, ok := k.outcomes[in]; ok {
		return list, api.OK
	}
	var list []outcome
	for _, op := range k.operations {
		end, err := k.run(op, in)
		if err != api.OK {
			return nil, err
		}
		list = append(list, end)
	}
	k.outcomes[in] = list
	return list, api.OK
}

// relation is the pairs of states of two modules that were met.
type relation struct {
	one, other known
	met        map[pair]bool
}

// behind returns the pairs to which one more call leads from a pair, as far as they were not met before.
func (r *relation) behind(p pair) ([]pair, api.Errno) {
	ones, err := r.one.all(p[0])
	if err != api.OK {
		return nil, err
	}
	others, err := r.other.all(p[1])
	if err != api.OK {
		return nil, err
	}
	var list []pair
	for i, end := range ones {
		next := pair{end.state, others[i].state}
		if end.ends && others[i].ends && !r.met[next] {
			r.met[next] = true
			list = append(list, next)
		}
	}
	return list, api.OK
}

// meet returns the pairs of states to which the same calls lead, round by round: what one more call leads to waits for the next round.
func meet(a, b *Module) (map[pair]bool, api.Errno) {
	first := pair{a.first(), b.first()}
	r := relation{newKnown(a), newKnown(b), map[pair]bool{first: true}}
	for waiting := []pair{first}; len(waiting) > 0; {
		var next []pair
		for i := range len(waiting) {
			behind, err := r.behind(waiting[i])
			if err != api.OK {
				return nil, err
			}
			next = append(next, behind...)
		}
		waiting = next
	}
	return r.met, api.OK
}
