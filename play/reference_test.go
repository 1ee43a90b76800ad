package play

import (
	"maps"
	"slices"

	"doppelganger/api"
)

// reference runs programs in another way than the package: it has the nodes that are under way in a list of frames, each variable in a cell of its own, and leaves nothing by panic.
type reference struct {
	nodes  []api.Node
	frames []frame
	steps  int
	limit  int  // of steps
	blind  bool // it does not look whether a While asks again with the same values
}

// names are what is bound at a place.
type names map[string]thing

// thing is what a name is bound to: a variable, the frame of a block, or a procedure or argument by its node, with what is bound where that stands.
type thing struct {
	cell  *int
	frame int
	proc  bool
	node  int
	names names
}

// frame is a node under way, with the values of what it has run so far.
type frame struct {
	node   int
	names  names
	values []int
	cells  []*int  // its variables
	asked  [][]int // by a While: the values of all variables, at each time
}

func (n names) with(name string, what thing) names {
	inner := maps.Clone(n)
	inner[name] = what
	return inner
}

// referenceRun runs a program.
func referenceRun(nodes []api.Node, limit int, blind bool) outcome {
	m := &reference{nodes: nodes, limit: limit, blind: blind}
	if end, over := m.begin(0, names{}); over {
		return end
	}
	for {
		if end, over := m.turn(); over {
			return end
		}
	}
}

// begin begins a node.
func (m *reference) begin(at int, n names) (end outcome, over bool) {
	if m.steps == m.limit {
		return full, true
	}
	m.steps++
	switch m.nodes[at].Kind {
	case api.Stop:
		return never, true
	case api.Fault:
		return faulted(m.steps), true
	}
	m.frames = append(m.frames, frame{node: at, names: n})
	return outcome{}, false
}

// finish ends the last node with a value.
func (m *reference) finish(value int) (end outcome, over bool) {
	m.frames = m.frames[:len(m.frames)-1]
	if len(m.frames) == 0 {
		return done(value, m.steps), true
	}
	outer := &m.frames[len(m.frames)-1]
	outer.values = append(outer.values, value)
	return outcome{}, false
}

// turn goes on with the last node: it begins what it has to run next, or finishes it.
func (m *reference) turn() (end outcome, over bool) {
	f := &m.frames[len(m.frames)-1]
	n := m.nodes[f.node]
	ran := len(f.values)
	switch n.Kind {
	case api.While:
		return m.while(f, n)
	case api.If:
		if ran == 1 {
			chosen := n.Kids[2]
			if f.values[0] != 0 {
				chosen = n.Kids[1]
			}
			return m.begin(chosen, f.names)
		}
		if ran == 2 {
			return m.finish(f.values[1])
		}
	case api.Call:
		return m.call(f, n)
	case api.Proc:
		if ran == 1 {
			return m.finish(f.values[0])
		}
		return m.begin(n.Kids[1], f.names.with(n.Name, thing{proc: true, node: f.node, names: f.names}))
	case api.Exit:
		m.frames = m.frames[:f.names[n.Name].frame+1]
		return m.finish(0)
	case api.Block:
		if ran == 0 {
			return m.begin(n.Kids[0], f.names.with(n.Name, thing{frame: len(m.frames) - 1}))
		}
	case api.New:
		if ran == 1 {
			cell := f.newCell(f.values[0])
			return m.begin(n.Kids[1], f.names.with(n.Name, thing{cell: cell}))
		}
	}
	if ran < len(n.Kids) {
		return m.begin(n.Kids[ran], f.names)
	}
	return m.finish(m.result(f, n))
}

// result is the value of a node whose kids have all been run, one after another.
func (m *reference) result(f *frame, n api.Node) int {
	answers := map[bool]int{true: 1}
	switch n.Kind {
	case api.Num:
		return n.Value
	case api.Read:
		return *f.names[n.Name].cell
	case api.Assign:
		*f.names[n.Name].cell = f.values[0]
	case api.New, api.Do:
		return f.values[1]
	case api.Add:
		return (f.values[0] + f.values[1]) & 3
	case api.Sub:
		return (f.values[0] - f.values[1]) & 3
	case api.Mul:
		return (f.values[0] * f.values[1]) & 3
	case api.Equal:
		return answers[f.values[0] == f.values[1]]
	case api.Less:
		return answers[f.values[0] < f.values[1]]
	}
	return 0
}

func (m *reference) while(f *frame, n api.Node) (end outcome, over bool) {
	if len(f.values)%2 == 1 {
		if f.values[len(f.values)-1] == 0 {
			return m.finish(0)
		}
		return m.begin(n.Kids[1], f.names)
	}
	if !m.blind {
		var now []int
		for _, frame := range m.frames {
			for _, cell := range frame.cells {
				now = append(now, *cell)
			}
		}
		if slices.ContainsFunc(f.asked, func(was []int) bool { return slices.Equal(was, now) }) {
			return never, true
		}
		f.asked = append(f.asked, now)
	}
	return m.begin(n.Kids[0], f.names)
}

// call runs a parameter's argument, or a procedure: first its arguments by value, then its body.
func (m *reference) call(f *frame, n api.Node) (end outcome, over bool) {
	what := f.names[n.Name]
	ran := len(f.values)
	if !what.proc {
		if ran == 1 {
			return m.finish(f.values[0])
		}
		return m.begin(what.node, what.names)
	}
	p := m.nodes[what.node]
	var byValue []int // the kids that are arguments by value
	for i, param := range p.Params {
		if param.Type == api.Val {
			byValue = append(byValue, n.Kids[i])
		}
	}
	switch {
	case ran < len(byValue):
		return m.begin(byValue[ran], f.names)
	case ran > len(byValue):
		return m.finish(f.values[ran-1])
	}
	inner := what.names
	for i, param := range p.Params {
		what := thing{node: n.Kids[i], names: f.names}
		if param.Type == api.Val {
			what = thing{cell: f.newCell(f.values[len(f.cells)])}
		}
		inner = inner.with(param.Name, what)
	}
	return m.begin(p.Kids[0], inner)
}

func (f *frame) newCell(value int) *int {
	cell := &value
	f.cells = append(f.cells, cell)
	return cell
}
