package play

import (
	"doppelganger/api"
	"doppelganger/numbers"
)

// ending is what comes of a program. A fault, a run that never ends and one of too many steps leave by it.
type ending struct {
	result api.Result
	value  int
	steps  int
	err    api.Errno
}

// exit leaves the run of a block.
type exit struct {
	label *scope
}

// runner is a run of a program.
type runner struct {
	nodes  []api.Node
	steps  int
	values []byte // of the variables that are there, in the order in which they began
}

// whole runs the program.
func (r *runner) whole() (end ending) {
	defer func() {
		if left, ok := recover().(ending); ok {
			end = left
		}
	}()
	value := r.run(0, nil)
	return ending{result: api.Done, value: value, steps: r.steps}
}

// run runs a node, and returns its value, 0 of a command.
func (r *runner) run(at int, s *scope) int {
	r.step()
	n := &r.nodes[at]
	switch n.Kind {
	case api.Stop:
		panic(ending{result: api.Never})
	case api.Fault:
		panic(ending{result: api.Faulted, steps: r.steps})
	case api.Exit:
		panic(exit{s.find(n.Name)})
	case api.Seq, api.Do:
		r.run(n.Kids[0], s)
		return r.run(n.Kids[1], s)
	case api.Assign:
		r.assign(n, s)
	case api.If:
		return r.choice(n, s)
	case api.While:
		r.loop(n, s)
	case api.New:
		return r.fresh(n, s)
	case api.Call:
		return r.call(n, s)
	case api.Proc:
		return r.proc(n, s)
	case api.Block:
		r.block(n, s)
	case api.Num:
		return n.Value
	case api.Read:
		return int(r.values[s.find(n.Name).place])
	case api.Add, api.Sub, api.Mul, api.Equal, api.Less:
		left := r.run(n.Kids[0], s)
		right := r.run(n.Kids[1], s)
		return numbers.Calculate(n.Kind, left, right)
	}
	return 0
}

// step counts a step, if there may be one more.
func (r *runner) step() {
	if r.steps == api.MaxSteps {
		panic(ending{err: api.ErrFull})
	}
	r.steps++
}

func (r *runner) assign(n *api.Node, s *scope) {
	value := r.run(n.Kids[0], s)
	r.values[s.find(n.Name).place] = byte(value)
}

func (r *runner) choice(n *api.Node, s *scope) int {
	if r.run(n.Kids[0], s) != 0 {
		return r.run(n.Kids[1], s)
	}
	return r.run(n.Kids[2], s)
}

// loop runs a While. All variables count, also those that are out of sight here: an argument that the condition or the command calls may set them.
func (r *runner) loop(n *api.Node, s *scope) {
	asked := map[string]bool{}
	for {
		values := string(r.values)
		if asked[values] {
			panic(ending{result: api.Never})
		}
		asked[values] = true
		if r.run(n.Kids[0], s) == 0 {
			return
		}
		r.run(n.Kids[1], s)
	}
}

func (r *runner) fresh(n *api.Node, s *scope) int {
	value := r.run(n.Kids[0], s)
	inner := r.open(n.Name, value, s)
	value = r.run(n.Kids[1], inner)
	r.forget(inner.place)
	return value
}

// open begins a variable.
func (r *runner) open(name string, value int, s *scope) *scope {
	inner := &scope{outer: s, name: name, place: len(r.values)}
	r.values = append(r.values, byte(value))
	return inner
}

// forget keeps the values of the first variables alone.
func (r *runner) forget(count int) {
	r.values = r.values[:count]
}

// call runs what a name stands for. What is handed over is bound here, as nothing else is where an argument stands.
func (r *runner) call(n *api.Node, s *scope) int {
	var args []routine
	for _, kid := range n.Kids {
		args = append(args, func([]routine) int { return r.run(kid, s) })
	}
	return s.find(n.Name).run(args)
}

func (r *runner) proc(n *api.Node, s *scope) int {
	body := func(args []routine) int {
		count := len(r.values)
		inner := r.enter(n.Params, args, s)
		value := r.run(n.Kids[0], inner)
		r.forget(count)
		return value
	}
	return r.run(n.Kids[1], &scope{outer: s, name: n.Name, run: body})
}

// enter binds parameters to arguments.
func (r *runner) enter(params []api.Param, args []routine, s *scope) *scope {
	values := make([]int, len(params))
	for i, param := range params {
		if param.Type == api.Val {
			values[i] = args[i](nil)
		}
	}
	for i, param := range params {
		if param.Type == api.Val {
			s = r.open(param.Name, values[i], s)
		} else {
			s = &scope{outer: s, name: param.Name, run: args[i]}
		}
	}
	return s
}

// block runs a Block until it ends, or an exit leaves this run of it. What leaves anything further out goes on.
func (r *runner) block(n *api.Node, s *scope) {
	label := &scope{outer: s, name: n.Name}
	count := len(r.values)
	defer func() {
		left := recover()
		if left == nil {
			return
		}
		if out, ok := left.(exit); !ok || out.label != label {
			panic(left)
		}
		r.forget(count)
	}()
	r.run(n.Kids[0], label)
}
