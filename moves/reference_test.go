package moves

import (
	"slices"

	"doppelganger/api"
	"doppelganger/lang"
	"doppelganger/numbers"
)

// teller tells the play of a piece in another way than the package: it runs the piece's own term, calls and all, by functions that call themselves, and knows of no unfolded term and no situations.
type teller struct {
	nodes   []api.Node
	choices []int // which of the moves that it can make the other side makes, each time
	play    []api.Move
	others  []api.Move // what the other side can do then
	steps   int
}

// patience is how many steps in a row without a move are taken for a row without an end.
const patience = 3 * api.MaxInner

// thing is what a name is bound to at a place.
type thing struct {
	outer *thing
	name  string
	cell  *int                        // of a variable
	run   func(args []func() int) int // of what is called
}

// leave leaves the block that is bound to a label.
type leave struct {
	label *thing
}

// isOver ends the run, by the fault, without an end, or as no choice is left.
type isOver struct{}

// tell returns the moves that are made if the other side makes its choices, and what it can do then. The last move is the other side's if the piece makes none behind it.
func tell(p *lang.Piece, choices []int) (play, others []api.Move) {
	r := &teller{nodes: p.Nodes(), choices: choices, play: []api.Move{{}}}
	r.whole(p.Decls())
	return r.play, r.others
}

func (r *teller) whole(decls []api.Decl) {
	defer func() {
		if left := recover(); left != nil {
			_ = left.(isOver)
		}
	}()
	var names *thing
	for _, decl := range decls {
		names = &thing{outer: names, name: decl.Name, run: r.asking(decl)}
	}
	value := r.run(0, names)
	r.play = append(r.play, api.Move{Answer: true, Value: value})
}

// asking returns what a call of a declared name does.
func (r *teller) asking(decl api.Decl) func(args []func() int) int {
	return func(args []func() int) int {
		asks, weight := api.Move{Name: decl.Name}, 1
		for i, arg := range decl.Args {
			if arg == api.Val {
				asks.Value += weight * args[i]()
				weight *= api.Width
			}
		}
		r.play = append(r.play, asks)
		for {
			other := r.chosen(decl)
			if other.Answer {
				return other.Value
			}
			value := args[other.Arg-1]()
			r.play = append(r.play, api.Move{Name: decl.Name, Arg: other.Arg, Answer: true, Value: value})
		}
	}
}

// chosen returns the next move of the other side.
func (r *teller) chosen(decl api.Decl) api.Move {
	can := []api.Move{{Name: decl.Name, Answer: true}}
	for value := 1; value < api.Width && decl.Result == api.Exp; value++ {
		can = append(can, api.Move{Name: decl.Name, Answer: true, Value: value})
	}
	for i, arg := range decl.Args {
		if arg != api.Val {
			can = append(can, api.Move{Name: decl.Name, Arg: i + 1})
		}
	}
	if len(r.choices) == 0 {
		r.others = can
		panic(isOver{})
	}
	other := can[r.choices[0]%len(can)]
	r.choices = r.choices[1:]
	r.play = append(r.play, other)
	r.steps = 0
	return other
}

func (t *thing) find(name string) *thing {
	for t.name != name {
		t = t.outer
	}
	return t
}

func (r *teller) run(at int, names *thing) int {
	if r.steps++; r.steps > patience {
		panic(isOver{})
	}
	n := r.nodes[at]
	kid := func(i int) int { return r.run(n.Kids[i], names) }
	switch n.Kind {
	case api.Skip:
	case api.Stop:
		panic(isOver{})
	case api.Fault:
		r.play = append(r.play, api.Move{Fault: true})
		panic(isOver{})
	case api.Exit:
		panic(leave{names.find(n.Name)})
	case api.Seq, api.Do:
		kid(0)
		return kid(1)
	case api.Assign:
		*names.find(n.Name).cell = kid(0)
	case api.If:
		if kid(0) != 0 {
			return kid(1)
		}
		return kid(2)
	case api.While:
		for kid(0) != 0 {
			kid(1)
		}
	case api.Num:
		return n.Value
	case api.Read:
		return *names.find(n.Name).cell
	case api.Add, api.Sub, api.Mul, api.Equal, api.Less:
		left := kid(0)
		return numbers.Calculate(n.Kind, left, kid(1))
	default:
		return r.bind(n, names)
	}
	return 0
}

// bind runs what binds a name, or calls one.
func (r *teller) bind(n api.Node, names *thing) int {
	switch n.Kind {
	case api.New:
		value := r.run(n.Kids[0], names)
		return r.run(n.Kids[1], &thing{outer: names, name: n.Name, cell: &value})
	case api.Proc:
		return r.run(n.Kids[1], &thing{outer: names, name: n.Name, run: r.calling(n, names)})
	case api.Block:
		r.block(n, &thing{outer: names, name: n.Name})
		return 0
	}
	var args []func() int
	for _, kid := range n.Kids {
		args = append(args, func() int { return r.run(kid, names) })
	}
	return names.find(n.Name).run(args)
}

// calling returns what a call of a procedure does.
func (r *teller) calling(n api.Node, names *thing) func(args []func() int) int {
	return func(args []func() int) int {
		inner := names
		for i, param := range n.Params {
			one := &thing{outer: inner, name: param.Name}
			if param.Type == api.Val {
				value := args[i]()
				one.cell = &value
			} else {
				one.run = func([]func() int) int { return args[i]() }
			}
			inner = one
		}
		return r.run(n.Kids[0], inner)
	}
}

func (r *teller) block(n api.Node, label *thing) {
	defer func() {
		if left := recover(); left != nil {
			if out, ok := left.(leave); !ok || out.label != label {
				panic(left)
			}
		}
	}()
	r.run(n.Kids[0], label)
}

// tree returns the plays of a piece that have at most some moves of the other side, and what is no play as the piece makes no move behind the last one.
func tree(p *lang.Piece, most int) (plays, silent [][]api.Move) {
	var grow func(choices []int)
	grow = func(choices []int) {
		play, others := tell(p, choices)
		if len(play)%2 == 1 {
			silent = append(silent, play)
			return
		}
		plays = append(plays, slices.Clone(play))
		if len(choices)+1 < most {
			for choice := range others {
				grow(append(slices.Clone(choices), choice))
			}
		}
	}
	grow(nil)
	return plays, silent
}
