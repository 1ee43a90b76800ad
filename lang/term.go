package lang

import (
	"slices"

	"doppelganger/api"
)

// term is a node with all that hangs on it. Terms are never changed, so pieces may share them.
type term interface {
	// node returns the node without the numbers of its kids, and the kids.
	node() (api.Node, []term)
}

// The terms. "of" is the type of those that have either one.
type (
	skip  struct{}
	stop  struct{ of api.Type }
	fault struct{ of api.Type }
	// row has two steps or more, none of which is a row: so it has one shape, whatever its Seq nodes were like.
	row    struct{ steps []term }
	assign struct {
		name  string
		value term
	}
	choice struct {
		of            api.Type
		test, yes, no term
	}
	loop  struct{ test, body term }
	fresh struct {
		of           api.Type
		name         string
		value, block term
	}
	call struct {
		of   api.Type
		name string
		args []term
	}
	proc struct {
		of          api.Type
		name        string
		params      []api.Param
		result      api.Type
		body, block term
	}
	num    struct{ value int }
	read   struct{ name string }
	binary struct {
		kind        int
		left, right term
	}
	doing    struct{ first, value term }
	labelled struct {
		name string
		body term
	}
	exit struct {
		of   api.Type
		name string
	}
)

func (t skip) node() (api.Node, []term) {
	return api.Node{Kind: api.Skip}, nil
}

func (t stop) node() (api.Node, []term) {
	return api.Node{Kind: api.Stop, Type: t.of}, nil
}

func (t fault) node() (api.Node, []term) {
	return api.Node{Kind: api.Fault, Type: t.of}, nil
}

func (t row) node() (api.Node, []term) {
	last := len(t.steps) - 1
	first := t.steps[0]
	if last > 1 {
		first = row{t.steps[:last]}
	}
	return api.Node{Kind: api.Seq}, []term{first, t.steps[last]}
}

func (t assign) node() (api.Node, []term) {
	return api.Node{Kind: api.Assign, Name: t.name}, []term{t.value}
}

func (t choice) node() (api.Node, []term) {
	return api.Node{Kind: api.If, Type: t.of}, []term{t.test, t.yes, t.no}
}

func (t loop) node() (api.Node, []term) {
	return api.Node{Kind: api.While}, []term{t.test, t.body}
}

func (t fresh) node() (api.Node, []term) {
	return api.Node{Kind: api.New, Type: t.of, Name: t.name}, []term{t.value, t.block}
}

func (t call) node() (api.Node, []term) {
	return api.Node{Kind: api.Call, Type: t.of, Name: t.name}, t.args
}

func (t proc) node() (api.Node, []term) {
	params := slices.Clone(t.params)
	return api.Node{Kind: api.Proc, Type: t.of, Name: t.name, Params: params, Result: t.result}, []term{t.body, t.block}
}

func (t num) node() (api.Node, []term) {
	return api.Node{Kind: api.Num, Type: api.Exp, Value: t.value}, nil
}

func (t read) node() (api.Node, []term) {
	return api.Node{Kind: api.Read, Type: api.Exp, Name: t.name}, nil
}

func (t binary) node() (api.Node, []term) {
	return api.Node{Kind: t.kind, Type: api.Exp}, []term{t.left, t.right}
}

func (t doing) node() (api.Node, []term) {
	return api.Node{Kind: api.Do, Type: api.Exp}, []term{t.first, t.value}
}

func (t labelled) node() (api.Node, []term) {
	return api.Node{Kind: api.Block, Name: t.name}, []term{t.body}
}

func (t exit) node() (api.Node, []term) {
	return api.Node{Kind: api.Exit, Type: t.of, Name: t.name}, nil
}

// inRow returns the term of steps one behind the other, of which some may be rows.
func inRow(steps []term) term {
	var flat []term
	for _, step := range steps {
		if inner, ok := step.(row); ok {
			flat = append(flat, inner.steps...)
		} else {
			flat = append(flat, step)
		}
	}
	if len(flat) == 1 {
		return flat[0]
	}
	return row{flat}
}

func typeOf(t term) api.Type {
	head, _ := t.node()
	return head.Type
}

// appendNodes appends the nodes of a term to a list.
func appendNodes(list []api.Node, t term) []api.Node {
	head, kids := t.node()
	at := len(list)
	list = append(list, head)
	for _, kid := range kids {
		list[at].Kids = append(list[at].Kids, len(list))
		list = appendNodes(list, kid)
	}
	return list
}

// measure returns how many nodes a term has, and the level of its deepest one, if it stands at a level itself.
func measure(t term, level int) (nodes, deepest int) {
	_, kids := t.node()
	nodes, deepest = 1, level
	if steps, ok := t.(row); ok {
		kids = steps.steps
		nodes = len(kids) - 1
	}
	for _, kid := range kids {
		more, below := measure(kid, level+1)
		nodes += more
		deepest = max(deepest, below)
	}
	return nodes, deepest
}
