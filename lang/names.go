package lang

import (
	"slices"

	"doppelganger/api"
)

// The sorts of what binds a name.
const (
	declaration = iota
	procedure
	parameter
	variable
	label
	hole // the declaration of hole, where a context is filled
)

// binding is what binds a name. The types are those of what is called.
type binding struct {
	sort   int
	name   string
	args   []api.Type
	result api.Type
}

// fits reports whether it is called as a declaration says.
func (b binding) fits(decl api.Decl) bool {
	return b.sort != variable && b.sort != label && b.result == decl.Result && slices.Equal(b.args, decl.Args)
}

// takes reports whether a call of it is right.
func (b binding) takes(c call) bool {
	if b.sort == variable || b.sort == label || b.result != c.of || len(b.args) != len(c.args) {
		return false
	}
	for i, arg := range c.args {
		if (b.args[i] == api.Com) != (typeOf(arg) == api.Com) {
			return false
		}
	}
	return true
}

// bindings are what binds names at a place, the innermost one last.
type bindings []binding

func (b *bindings) bind(inner ...binding) {
	*b = append(*b, inner...)
}

// release takes back what was bound last.
func (b *bindings) release(count int) {
	*b = (*b)[:len(*b)-count]
}

func (b *bindings) find(name string) (binding, bool) {
	for _, one := range slices.Backward(*b) {
		if one.name == name {
			return one, true
		}
	}
	return binding{}, false
}

// wrong returns what is wrong with the name that a node uses.
func (b *bindings) wrong(t term) api.Errno {
	switch t := t.(type) {
	case assign:
		return b.wrongSort(t.name, variable)
	case read:
		return b.wrongSort(t.name, variable)
	case exit:
		return b.wrongSort(t.name, label)
	case call:
		found, ok := b.find(t.name)
		if !ok {
			return api.ErrName
		}
		if !found.takes(t) {
			return api.ErrType
		}
	}
	return api.OK
}

func (b *bindings) wrongSort(name string, sort int) api.Errno {
	found, ok := b.find(name)
	switch {
	case !ok:
		return api.ErrName
	case found.sort != sort:
		return api.ErrType
	}
	return api.OK
}

// reader goes through a term in the order of its nodes, and knows at each what binds names there.
type reader struct {
	bindings
	// visit sees each node but those of rows ahead of its kids. What it returns, unless nil, stands in the place of the node, and is not gone through.
	visit func(t term) term
}

func newReader(decls []api.Decl) *reader {
	r := &reader{}
	for _, decl := range decls {
		r.bind(binding{declaration, decl.Name, decl.Args, decl.Result})
	}
	return r
}

// check returns the first error of names in a term.
func check(decls []api.Decl, root term) api.Errno {
	err := api.OK
	r := newReader(decls)
	r.visit = func(t term) term {
		if err == api.OK {
			err = r.wrong(t)
		}
		return nil
	}
	r.read(root)
	return err
}

// resolve returns a term as it is meant: the parser cannot know which names are those of variables, and has all as calls.
func resolve(decls []api.Decl, root term) (term, api.Errno) {
	err := api.OK
	r := newReader(decls)
	r.visit = func(t term) term {
		meant := r.meant(t)
		if err == api.OK {
			err = r.wrong(meant)
		}
		if _, ok := meant.(read); ok {
			return meant
		}
		return nil
	}
	root = r.read(root)
	return root, err
}

// meant returns a read instead of a call, if it is the one of a variable's name as an expression.
func (b *bindings) meant(t term) term {
	c, ok := t.(call)
	if !ok || c.of != api.Exp || len(c.args) > 0 {
		return t
	}
	if found, ok := b.find(c.name); ok && found.sort == variable {
		return read{c.name}
	}
	return t
}

// read goes through a term, and returns what comes of it.
func (r *reader) read(t term) term {
	if steps, ok := t.(row); ok {
		return inRow(r.all(steps.steps))
	}
	if other := r.visit(t); other != nil {
		return other
	}
	switch t := t.(type) {
	case assign:
		value := r.read(t.value)
		return assign{t.name, value}
	case choice:
		test := r.read(t.test)
		yes := r.read(t.yes)
		no := r.read(t.no)
		return choice{t.of, test, yes, no}
	case loop:
		test := r.read(t.test)
		body := r.read(t.body)
		return loop{test, body}
	case call:
		args := r.all(t.args)
		return call{t.of, t.name, args}
	case binary:
		left := r.read(t.left)
		right := r.read(t.right)
		return binary{t.kind, left, right}
	case doing:
		first := r.read(t.first)
		value := r.read(t.value)
		return doing{first, value}
	case fresh:
		value := r.read(t.value)
		block := r.within(t.block, binding{sort: variable, name: t.name})
		return fresh{t.of, t.name, value, block}
	case proc:
		inner, outer := bindingsOf(t)
		body := r.within(t.body, inner...)
		block := r.within(t.block, outer)
		return proc{t.of, t.name, t.params, t.result, body, block}
	case labelled:
		body := r.within(t.body, binding{sort: label, name: t.name})
		return labelled{t.name, body}
	}
	return t
}

func (r *reader) all(list []term) []term {
	var out []term
	for _, t := range list {
		other := r.read(t)
		out = append(out, other)
	}
	return out
}

// within goes through a term in which some names are bound.
func (r *reader) within(t term, inner ...binding) term {
	r.bind(inner...)
	other := r.read(t)
	r.release(len(inner))
	return other
}

// bindingsOf returns what a proc binds in its body, and what in its block.
func bindingsOf(p proc) (inner []binding, outer binding) {
	outer = binding{sort: procedure, name: p.name, result: p.result}
	for _, param := range p.params {
		outer.args = append(outer.args, param.Type)
		if param.Type == api.Val {
			inner = append(inner, binding{sort: variable, name: param.Name})
		} else {
			inner = append(inner, binding{sort: parameter, name: param.Name, result: param.Type})
		}
	}
	return inner, outer
}
