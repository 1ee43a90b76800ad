package parts

import (
	"slices"
	"strings"

	"doppelganger/api"
	"doppelganger/lang"
	"doppelganger/terms"
	"doppelganger/words"
)

// part is a part of a text, and what stands behind it.
type part struct {
	text, rest string
}

// parts are what is still to be read of a text.
type parts []part

// split returns the parts of a text, if it has no others.
func split(text string) (parts, bool) {
	var list parts
	for {
		word, rest, ok := words.First(text)
		if word == "" {
			return list, ok
		}
		list = append(list, part{word, rest})
		text = rest
	}
}

// next returns the next part, an empty one at the end, and goes on behind it.
func (p *parts) next() part {
	if len(*p) == 0 {
		return part{}
	}
	first := (*p)[0]
	*p = (*p)[1:]
	return first
}

// take goes on behind the next part, if this is its text.
func (p *parts) take(text string) bool {
	if len(*p) == 0 || (*p)[0].text != text {
		return false
	}
	*p = (*p)[1:]
	return true
}

// source is an operation as it is written.
type source struct {
	name string
	typ  api.Type
	body string
}

// reader reads the text of a module.
type reader struct {
	parts
	broken bool // something was not by the grammar
}

// parse returns the variables and the operations of a text, if it is by the grammar, but for the bodies.
func parse(text string) (variables []variable, sources []source, ok bool) {
	if len(text) > api.MaxText-100 {
		return nil, nil, false
	}
	list, ok := split(text)
	r := &reader{parts: list, broken: !ok}
	var names []string
	for r.take("new") {
		v := r.variable()
		r.must(v.name != client)
		variables = append(variables, v)
		names = append(names, v.name)
	}
	for more := true; more; more = r.take(";") {
		one := r.operation()
		sources = append(sources, one)
		names = append(names, one.name)
	}
	r.must(len(r.parts) == 0)
	r.must(len(variables) <= api.MaxHidden && len(sources) <= api.MaxArgs && allDiffer(names))
	return variables, sources, !r.broken
}

// must notes whether what the grammar asks for is so.
func (r *reader) must(so bool) {
	r.broken = r.broken || !so
}

func (r *reader) want(text string) {
	taken := r.take(text)
	r.must(taken)
}

func (r *reader) name() string {
	name := r.next().text
	r.must(words.IsName(name))
	return name
}

func (r *reader) variable() variable {
	name := r.name()
	r.want("=")
	value, ok := words.Digit(r.next().text)
	r.must(ok)
	r.want(";")
	return variable{name, value}
}

func (r *reader) operation() source {
	name := r.name()
	r.want(":")
	typ := r.typ()
	body := r.block(typ)
	return source{name, typ, body}
}

func (r *reader) typ() api.Type {
	if r.take("exp") {
		return api.Exp
	}
	r.want("com")
	return api.Com
}

// block returns what stands in a block: all up to the mark that closes it. If a body is by the grammar, each mark that it opens is closed within it.
func (r *reader) block(typ api.Type) string {
	_, left, right := spelling(typ)
	first := r.next()
	r.must(first.text == left)
	for open := 1; ; {
		last := r.next()
		switch last.text {
		case left:
			open++
		case right:
			open--
		case "":
			r.must(false)
			return ""
		}
		if open == 0 {
			return strings.TrimSuffix(first.rest, right+last.rest)
		}
	}
}

func allDiffer(names []string) bool {
	slices.Sort(names)
	return len(slices.Compact(names)) == len(names)
}

// operation returns what is read of an operation: the term of its body, which is by the grammar just if the piece is that has it within the variables.
func (m *Module) operation(one source) (operation, api.Errno) {
	word, left, right := spelling(one.typ)
	ahead, behind := "|- "+word+" : ", ""
	for _, v := range m.variables {
		ahead += v.text() + " " + left + " "
		behind += " " + right
	}
	p, err := lang.Read(ahead + one.body + behind)
	if err != api.OK {
		return operation{}, err
	}
	text := strings.TrimPrefix(strings.TrimSuffix(p.Text(), behind), ahead)
	// Each variable is two nodes, one for its value.
	return operation{one.name, terms.At(p.Nodes(), 2*len(m.variables)), text}, api.OK
}
