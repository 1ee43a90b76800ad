package lang

import (
	"doppelganger/api"
	"doppelganger/words"
)

// malformed is what leaves the parser where a text is not by the grammar.
type malformed struct{}

// parser reads a text part by part.
type parser struct {
	part string // the next part, "" at the end
	rest string // what stands behind it
}

// parse returns what a text consists of, if it is by the grammar. Names mean nothing yet: one that is read stands as a call.
func parse(text string) (decls []api.Decl, typ api.Type, root term, ok bool) {
	if len(text) > api.MaxText {
		return nil, api.Com, nil, false
	}
	defer func() {
		if recover() != nil {
			decls, typ, root, ok = nil, api.Com, nil, false
		}
	}()
	p := &parser{rest: text}
	p.next()
	decls = p.decls()
	p.want("|-")
	typ = p.result()
	p.want(":")
	root = p.body(typ)
	p.want("")
	return decls, typ, root, true
}

// next goes on to the next part.
func (p *parser) next() {
	part, rest, ok := words.First(p.rest)
	must(ok)
	p.part, p.rest = part, rest
}

// must leaves the parser unless what the grammar asks for is so.
func must(so bool) {
	if !so {
		panic(malformed{})
	}
}

// take goes on behind a part, if it is the next one.
func (p *parser) take(part string) bool {
	if p.part != part {
		return false
	}
	if part != "" {
		p.next()
	}
	return true
}

func (p *parser) want(part string) {
	must(p.take(part))
}

func (p *parser) name() string {
	name := p.part
	must(words.IsName(name))
	p.next()
	return name
}

// decls reads the declarations, which end ahead of the "|-".
func (p *parser) decls() []api.Decl {
	var list []api.Decl
	if p.part == "|-" {
		return nil
	}
	for {
		one := p.decl()
		list = append(list, one)
		if !p.take(",") {
			must(validDecls(list))
			return list
		}
	}
}

func (p *parser) decl() api.Decl {
	one := api.Decl{Name: p.name()}
	if p.take("(") {
		for {
			arg := p.typ()
			one.Args = append(one.Args, arg)
			if !p.take(",") {
				break
			}
		}
		p.want(")")
	}
	p.want(":")
	one.Result = p.result()
	return one
}

func (p *parser) typ() api.Type {
	if p.take("val") {
		return api.Val
	}
	return p.result()
}

func (p *parser) result() api.Type {
	if p.take("com") {
		return api.Com
	}
	p.want("exp")
	return api.Exp
}

// body reads a term of a type.
func (p *parser) body(typ api.Type) term {
	if typ == api.Com {
		return p.com()
	}
	return p.exp()
}

// block reads a term of a type between the marks that the type has.
func (p *parser) block(typ api.Type) term {
	left, right := "{", "}"
	if typ == api.Exp {
		left, right = "[", "]"
	}
	p.want(left)
	t := p.body(typ)
	p.want(right)
	return t
}

func (p *parser) com() term {
	var steps []term
	for {
		step := p.step()
		steps = append(steps, step)
		if !p.take(";") {
			return inRow(steps)
		}
	}
}

func (p *parser) step() term {
	if t := p.ofEither(api.Com); t != nil {
		return t
	}
	switch {
	case p.take("skip"):
		return skip{}
	case p.take("while"):
		test := p.exp()
		body := p.block(api.Com)
		return loop{test, body}
	case p.take("block"):
		name := p.name()
		body := p.block(api.Com)
		return labelled{name, body}
	}
	name := p.name()
	if p.take(":=") {
		value := p.exp()
		return assign{name, value}
	}
	return p.call(api.Com, name)
}

// ofEither reads a term that begins with a word that commands and expressions have, nil if none does.
func (p *parser) ofEither(typ api.Type) term {
	switch {
	case p.take("stop"):
		return stop{typ}
	case p.take("fault"):
		return fault{typ}
	case p.take("exit"):
		name := p.name()
		return exit{typ, name}
	case p.take("if"):
		test := p.exp()
		yes := p.block(typ)
		no := p.block(typ)
		return choice{typ, test, yes, no}
	case p.take("new"):
		name := p.name()
		p.want("=")
		value := p.exp()
		block := p.block(typ)
		return fresh{typ, name, value, block}
	case p.take("proc"):
		return p.proc(typ)
	}
	return nil
}

func (p *parser) proc(typ api.Type) term {
	name := p.name()
	p.want("(")
	params := p.params()
	p.want(")")
	p.want(":")
	result := p.result()
	body := p.block(result)
	block := p.block(typ)
	return proc{typ, name, params, result, body, block}
}

func (p *parser) params() []api.Param {
	var list []api.Param
	if p.part == ")" {
		return nil
	}
	for {
		name := p.name()
		p.want(":")
		typ := p.typ()
		list = append(list, api.Param{Name: name, Type: typ})
		if !p.take(",") {
			must(validParams(list))
			return list
		}
	}
}

func (p *parser) call(result api.Type, name string) term {
	if !p.take("(") {
		return call{result, name, nil}
	}
	var args []term
	for {
		arg := p.arg()
		args = append(args, arg)
		if !p.take(",") {
			break
		}
	}
	p.want(")")
	must(len(args) <= api.MaxArgs)
	return call{result, name, args}
}

func (p *parser) arg() term {
	if p.part == "{" {
		return p.block(api.Com)
	}
	return p.exp()
}

func (p *parser) exp() term {
	left := p.sum()
	kind, ok := p.comparison()
	if !ok {
		return left
	}
	right := p.sum()
	return binary{kind, left, right}
}

func (p *parser) sum() term {
	return fromLeft(p.product, p.plusOrMinus)
}

func (p *parser) product() term {
	return fromLeft(p.atom, p.times)
}

// fromLeft reads operands with operators between them, and puts them together from the left.
func fromLeft(operand func() term, operator func() (kind int, ok bool)) term {
	left := operand()
	for {
		kind, ok := operator()
		if !ok {
			return left
		}
		right := operand()
		left = binary{kind, left, right}
	}
}

func (p *parser) comparison() (kind int, ok bool) {
	switch {
	case p.take("=="):
		return api.Equal, true
	case p.take("<"):
		return api.Less, true
	}
	return 0, false
}

func (p *parser) plusOrMinus() (kind int, ok bool) {
	switch {
	case p.take("+"):
		return api.Add, true
	case p.take("-"):
		return api.Sub, true
	}
	return 0, false
}

func (p *parser) times() (kind int, ok bool) {
	return api.Mul, p.take("*")
}

func (p *parser) atom() term {
	if t := p.ofEither(api.Exp); t != nil {
		return t
	}
	if value, ok := words.Digit(p.part); ok {
		p.next()
		return num{value}
	}
	switch {
	case p.take("("):
		inner := p.exp()
		p.want(")")
		return inner
	case p.take("do"):
		first := p.block(api.Com)
		value := p.block(api.Exp)
		return doing{first, value}
	}
	name := p.name()
	return p.call(api.Exp, name)
}
