package play

import (
	"math/rand"
	"strconv"
	"strings"

	"doppelganger/api"
)

// maker makes the texts of random terms whose names are bound.
type maker struct {
	*rand.Rand
	bound []bound // the innermost last
}

// The sorts of what is bound.
const (
	variable = iota
	label
	routines // procedures and parameters
)

type bound struct {
	name   string
	sort   int
	args   []api.Type
	result api.Type
}

func newMaker(seed int) *maker {
	return &maker{Rand: rand.New(rand.NewSource(int64(seed)))}
}

// newName is a name of few, so that names often hide each other.
func (m *maker) newName() string {
	return string(rune('a' + m.Intn(6)))
}

// pick picks one of the bindings of a sort that no inner one hides.
func (m *maker) pick(sort int, result api.Type) (bound, bool) {
	hidden := map[string]bool{}
	var list []bound
	for i := len(m.bound) - 1; i >= 0; i-- {
		b := m.bound[i]
		if !hidden[b.name] && b.sort == sort && b.result == result {
			list = append(list, b)
		}
		hidden[b.name] = true
	}
	if len(list) == 0 {
		return bound{}, false
	}
	return list[m.Intn(len(list))], true
}

// within makes a term where more is bound.
func (m *maker) within(typ api.Type, depth int, inner ...bound) string {
	m.bound = append(m.bound, inner...)
	text := m.term(typ, depth)
	m.bound = m.bound[:len(m.bound)-len(inner)]
	return text
}

func (m *maker) term(typ api.Type, depth int) string {
	if typ == api.Com {
		return m.com(depth)
	}
	return m.exp(depth)
}

func typeWord(typ api.Type) string {
	return []string{"com", "exp", "val"}[typ]
}

func block(typ api.Type, text string) string {
	if typ == api.Com {
		return "{ " + text + " }"
	}
	return "[ " + text + " ]"
}

func (m *maker) com(depth int) string {
	if depth <= 0 {
		if b, ok := m.pick(variable, api.Com); ok && m.Intn(2) == 0 {
			return b.name + " := " + m.exp(0)
		}
		return m.small("skip", api.Com)
	}
	switch m.Intn(12) {
	case 0, 1, 2:
		return m.com(depth-1) + "; " + m.com(depth-1)
	case 3, 4:
		if b, ok := m.pick(variable, api.Com); ok {
			return b.name + " := " + m.exp(depth-1)
		}
	case 5:
		return "while " + m.exp(depth-1) + " { " + m.com(depth-1) + " }"
	case 6:
		return m.countDown(depth)
	case 7:
		name := m.newName()
		return "block " + name + " { " + m.within(api.Com, depth-1, bound{name: name, sort: label}) + " }"
	}
	return m.ofEither(api.Com, depth)
}

// countDown is a While that ends rather more often than others.
func (m *maker) countDown(depth int) string {
	b, ok := m.pick(variable, api.Com)
	if !ok {
		return m.ofEither(api.Com, depth)
	}
	return "while " + b.name + " { " + m.com(depth-1) + "; " + b.name + " := " + b.name + " - 1 }"
}

func (m *maker) exp(depth int) string {
	if depth <= 0 {
		if b, ok := m.pick(variable, api.Com); ok && m.Intn(2) == 0 {
			return b.name
		}
		return m.small(strconv.Itoa(m.Intn(api.Width)), api.Exp)
	}
	switch m.Intn(10) {
	case 0, 1, 2:
		marks := []string{"+", "-", "*", "==", "<"}
		return "(" + m.exp(depth-1) + " " + marks[m.Intn(len(marks))] + " " + m.exp(depth-1) + ")"
	case 3, 4:
		return "do { " + m.com(depth-1) + " } [ " + m.exp(depth-1) + " ]"
	case 5:
		return m.exp(0)
	}
	return m.ofEither(api.Exp, depth)
}

// small is a leaf: mostly the usual one, now and then one that leaves what is run.
func (m *maker) small(usual string, typ api.Type) string {
	if b, ok := m.pick(routines, typ); ok && len(b.args) == 0 && m.Intn(2) == 0 {
		return b.name
	}
	if b, ok := m.pick(label, api.Com); ok && m.Intn(4) == 0 {
		return "exit " + b.name
	}
	switch m.Intn(60) {
	case 0:
		return "stop"
	case 1:
		return "fault"
	}
	return usual
}

func (m *maker) ofEither(typ api.Type, depth int) string {
	switch m.Intn(5) {
	case 0:
		return "if " + m.exp(depth-1) + " " + block(typ, m.term(typ, depth-1)) + " " + block(typ, m.term(typ, depth-1))
	case 1:
		name := m.newName()
		return "new " + name + " = " + m.exp(depth-1) + " " + block(typ, m.within(typ, depth-1, bound{name: name}))
	case 2:
		return m.proc(typ, depth)
	}
	b, ok := m.pick(routines, typ)
	if !ok {
		return m.proc(typ, depth)
	}
	var args []string
	for _, arg := range b.args {
		args = append(args, m.arg(arg, depth-1))
	}
	if len(args) == 0 {
		return b.name
	}
	return b.name + "(" + strings.Join(args, ", ") + ")"
}

func (m *maker) arg(typ api.Type, depth int) string {
	if typ == api.Com {
		return "{ " + m.com(depth) + " }"
	}
	return m.exp(depth)
}

func (m *maker) proc(typ api.Type, depth int) string {
	outer := bound{name: m.newName(), sort: routines, result: api.Type(m.Intn(2))}
	var inner []bound
	var params []string
	for _, place := range m.Perm(6)[:m.Intn(api.MaxArgs+1)] {
		one := bound{name: string(rune('a' + place)), sort: routines, result: api.Type(m.Intn(3))}
		outer.args = append(outer.args, one.result)
		params = append(params, one.name+" : "+typeWord(one.result))
		if one.result == api.Val {
			one = bound{name: one.name}
		}
		inner = append(inner, one)
	}
	body := m.within(outer.result, depth-1, inner...)
	rest := m.within(typ, depth-1, outer)
	head := outer.name + "(" + strings.Join(params, ", ") + ") : " + typeWord(outer.result)
	return "proc " + head + " " + block(outer.result, body) + " " + block(typ, rest)
}
