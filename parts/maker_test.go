package parts

import (
	"math/rand"
	"strconv"
	"strings"

	"doppelganger/api"
)

// maker makes random texts of terms.
type maker struct {
	*rand.Rand
	vars   []string
	labels []string
	calls  []api.Decl // what may be called, without arguments
	// other writes the same terms in other words, which mean the same: with its own random numbers, it lays more around them, and keeps other numbers in the module's variables.
	other *rand.Rand
	shift map[string]int
}

func (m *maker) pick(list ...string) string {
	return list[m.Intn(len(list))]
}

func block(typ api.Type, text string) string {
	_, left, right := spelling(typ)
	return left + " " + text + " " + right
}

func (m *maker) term(typ api.Type, depth int) string {
	text := ""
	switch {
	case depth <= 0:
		text = m.leaf(typ)
	case typ == api.Com:
		text = m.com(depth - 1)
	default:
		text = m.exp(depth - 1)
	}
	return m.around(typ, text)
}

// around writes a term in other words.
func (m *maker) around(typ api.Type, text string) string {
	if m.other == nil {
		return text
	}
	word, _, _ := spelling(typ)
	choice := m.other.Intn(12)
	switch {
	case choice == 0:
		return "if 1 " + block(typ, text) + " " + block(typ, "stop")
	case choice == 1:
		return "new d = 0 " + block(typ, text)
	case choice == 2:
		return "proc d() : " + word + " " + block(typ, text) + " " + block(typ, "d")
	case choice == 3 && typ == api.Com:
		return text + "; new d = 1 { d := 2 }"
	case choice == 4 && typ == api.Com:
		return "block d { " + text + " }"
	case choice == 5 && typ == api.Com && len(m.shift) > 0:
		return "e := e + 1; " + text // a variable more, of which no answer tells
	case choice == 3 && typ == api.Exp:
		return "(" + text + " + 0)"
	case choice == 4 && typ == api.Exp:
		return "do { skip } [ " + text + " ]"
	}
	return text
}

func (m *maker) leaf(typ api.Type) string {
	if len(m.labels) > 0 && m.Intn(4) == 0 {
		return "exit " + m.pick(m.labels...)
	}
	if m.Intn(25) == 0 {
		return m.pick("stop", "fault")
	}
	var fitting []string
	for _, decl := range m.calls {
		if decl.Result == typ {
			fitting = append(fitting, decl.Name)
		}
	}
	switch {
	case len(fitting) > 0 && m.Intn(3) > 0:
		return m.pick(fitting...)
	case typ == api.Com && len(m.vars) > 0:
		return m.assign(strconv.Itoa(m.Intn(api.Width)))
	case typ == api.Com:
		return "skip"
	case len(m.vars) > 0 && m.Intn(3) > 0:
		return m.read()
	}
	return strconv.Itoa(m.Intn(api.Width))
}

func (m *maker) read() string {
	name := m.pick(m.vars...)
	if by := m.shift[name]; by > 0 {
		return "(" + name + " - " + strconv.Itoa(by) + ")"
	}
	return name
}

func (m *maker) assign(value string) string {
	name := m.pick(m.vars...)
	if by := m.shift[name]; by > 0 {
		value = "(" + value + ") + " + strconv.Itoa(by)
	}
	return name + " := " + value
}

func (m *maker) com(depth int) string {
	switch m.Intn(10) {
	case 0, 1, 2:
		first := m.term(api.Com, depth)
		return first + "; " + m.term(api.Com, depth)
	case 3, 4, 5:
		if len(m.vars) > 0 {
			return m.assign(m.term(api.Exp, depth))
		}
	case 6:
		name := m.pick("k", "l")
		return "block " + name + " { " + m.within(api.Com, depth, nil, []string{name}, nil) + " }"
	case 7:
		test := m.term(api.Exp, depth)
		return "while " + test + " { " + m.term(api.Com, depth) + " }"
	}
	return m.either(api.Com, depth)
}

func (m *maker) exp(depth int) string {
	switch m.Intn(5) {
	case 0, 1:
		left := m.term(api.Exp, depth)
		return "(" + left + " " + m.pick("+", "-", "*", "==", "<") + " " + m.term(api.Exp, depth) + ")"
	case 2:
		first := m.term(api.Com, depth)
		return "do { " + first + " } [ " + m.term(api.Exp, depth) + " ]"
	}
	return m.either(api.Exp, depth)
}

// either makes a term of which there is one of each type.
func (m *maker) either(typ api.Type, depth int) string {
	switch m.Intn(4) {
	case 0, 1:
		test := m.term(api.Exp, depth)
		yes := m.term(typ, depth)
		return "if " + test + " " + block(typ, yes) + " " + block(typ, m.term(typ, depth))
	case 2:
		name := m.pick("a", "b")
		value := m.term(api.Exp, depth)
		return "new " + name + " = " + value + " " + block(typ, m.within(typ, depth, []string{name}, nil, nil))
	}
	result := api.Type(m.Intn(2))
	word, _, _ := spelling(result)
	body := m.within(result, depth-1, []string{"a"}, nil, []api.Decl{{Name: "p"}})
	value, arg := m.term(api.Exp, depth-1), m.term(api.Com, depth-1)
	call := "f(" + value + ", { " + arg + " })"
	if result != typ && typ == api.Com {
		call = "new b = " + call + " { skip }"
	} else if result != typ {
		call = "do { " + call + " } [ " + m.term(typ, depth) + " ]"
	}
	return "proc f(a : val, p : com) : " + word + " " + block(result, body) + " " + block(typ, call)
}

// within makes a term where more is bound.
func (m *maker) within(typ api.Type, depth int, vars, labels []string, calls []api.Decl) string {
	before := *m
	m.vars = append(m.vars[:len(m.vars):len(m.vars)], vars...)
	m.labels = append(m.labels[:len(m.labels):len(m.labels)], labels...)
	m.calls = append(m.calls[:len(m.calls):len(m.calls)], calls...)
	text := m.term(typ, depth)
	m.vars, m.labels, m.calls = before.vars, before.labels, before.calls
	return text
}

// plan is what a module consists of, as texts.
type plan struct {
	vars   []string
	values []int
	ops    []string
	types  []api.Type
}

// text returns the text of the module.
func (p plan) text() string {
	var parts []string
	for i, name := range p.vars {
		parts = append(parts, "new "+name+" = "+strconv.Itoa(p.values[i]))
	}
	for i, body := range p.ops {
		word, _, _ := spelling(p.types[i])
		parts = append(parts, string("op"[i%2])+string("qrs"[i])+": "+word+" "+block(p.types[i], body))
	}
	return strings.Join(parts, "; ")
}

// sample makes a plan. All plans of one seed are the same module, in words that another random source chooses, if there is one.
func sample(seed int64, types []api.Type, depth int, other *rand.Rand) plan {
	random := rand.New(rand.NewSource(seed))
	p := plan{types: types}
	m := &maker{Rand: random, other: other, shift: map[string]int{}}
	for i := range random.Intn(4) {
		p.vars = append(p.vars, string("xyz"[i]))
		p.values = append(p.values, random.Intn(api.Width))
	}
	m.vars = p.vars
	if other != nil {
		p.vars = append(p.vars[:len(p.vars):len(p.vars)], "e")
		p.values = append(p.values, other.Intn(api.Width))
		for i, name := range p.vars {
			m.shift[name] = other.Intn(api.Width)
			p.values[i] = (p.values[i] + m.shift[name]) % api.Width
		}
	}
	for _, typ := range types {
		body := m.term(typ, depth)
		p.ops = append(p.ops, body)
	}
	return p
}

func sampleTypes(random *rand.Rand) []api.Type {
	types := []api.Type{api.Type(random.Intn(2))}
	for range random.Intn(3) {
		types = append(types, api.Type(random.Intn(2)))
	}
	return types
}
