package moves

import (
	"fmt"
	"math/rand"
	"slices"
	"strings"
)

// pieceMaker makes the texts of random pieces. A name always has the same type, whether a declaration, a procedure or a parameter binds it, so that these often hide each other; variables and labels have names of their own.
type pieceMaker struct {
	*rand.Rand
	bound []string
}

// Of what can be called, f takes a command; g takes an expression and a value; h takes a value, a command and a value.
func heads() map[string]string {
	return map[string]string{
		"p": "p() : com", "q": "q() : com", "x": "x() : exp", "y": "y() : exp",
		"f": "f(p : com) : com", "g": "g(x : exp, u : val) : exp", "h": "h(v : val, q : com, w : val) : com",
	}
}

// declarations returns random declarations.
func (m *pieceMaker) declarations() []string {
	types := map[string]string{"p": "p : com", "q": "q : com", "x": "x : exp", "y": "y : exp", "f": "f(com) : com", "g": "g(exp, val) : exp", "h": "h(val, com, val) : com"}
	var list []string
	for _, i := range m.Perm(7)[:m.Intn(4)] {
		name := string("pqxyfgh"[i])
		m.bound = append(m.bound, name)
		list = append(list, types[name])
	}
	return list
}

// newPiece returns the text of a piece, with declarations or without any.
func newPiece(seed int, declares bool) string {
	m := &pieceMaker{Rand: rand.New(rand.NewSource(int64(seed)))}
	var decls []string
	if declares {
		decls = m.declarations()
	}
	if depth := 2 + m.Intn(4); m.Intn(2) == 0 {
		return strings.Join(decls, ", ") + "|- com : " + m.com(depth)
	} else {
		return strings.Join(decls, ", ") + "|- exp : " + m.exp(depth)
	}
}

// within makes a term in which more names are bound.
func (m *pieceMaker) within(term func(depth int) string, depth int, names ...string) string {
	count := len(m.bound)
	m.bound = append(m.bound, names...)
	text := term(depth)
	m.bound = m.bound[:count]
	return text
}

// one returns one of some names that is bound.
func (m *pieceMaker) one(names string) (string, bool) {
	for _, i := range m.Perm(len(names)) {
		if name := string(names[i]); slices.Contains(m.bound, name) {
			return name, true
		}
	}
	return "", false
}

func (m *pieceMaker) com(depth int) string {
	if depth <= 0 {
		return m.leaf("pq", "skip")
	}
	depth--
	switch m.Intn(11) {
	case 0, 1, 2:
		return m.com(depth) + "; " + m.com(depth)
	case 3:
		if name, ok := m.one("uvw"); ok {
			return name + " := " + m.exp(depth)
		}
	case 4:
		label := string("kl"[m.Intn(2)])
		return "block " + label + " { " + m.within(m.com, depth, label) + " }"
	case 5:
		if name, ok := m.one("uvw"); ok && m.Intn(3) > 0 {
			return "while " + name + " { " + m.com(depth) + "; " + name + " := " + name + " - 1 }"
		}
		return "while " + m.exp(depth) + " { " + m.com(depth) + " }"
	case 6, 7:
		if name, ok := m.one("fh"); ok {
			return m.call(name, depth)
		}
	}
	return m.either(m.com, "{}", depth)
}

func (m *pieceMaker) exp(depth int) string {
	if depth <= 0 {
		if name, ok := m.one("uvw"); ok && m.Intn(2) == 0 {
			return name
		}
		return m.leaf("xy", string("0123"[m.Intn(4)]))
	}
	depth--
	switch m.Intn(8) {
	case 0, 1:
		mark := []string{"+", "-", "*", "==", "<"}[m.Intn(5)]
		return "(" + m.exp(depth) + " " + mark + " " + m.exp(depth) + ")"
	case 2:
		return "do { " + m.com(depth) + " } [ " + m.exp(depth) + " ]"
	case 3, 4:
		if name, ok := m.one("g"); ok {
			return m.call(name, depth)
		}
	}
	return m.either(m.exp, "[]", depth)
}

func (m *pieceMaker) leaf(names, usual string) string {
	if name, ok := m.one(names); ok && m.Intn(3) > 0 {
		return name
	}
	if label, ok := m.one("kl"); ok && m.Intn(4) == 0 {
		return "exit " + label
	}
	switch m.Intn(40) {
	case 0:
		return "stop"
	case 1:
		return "fault"
	}
	return usual
}

// either makes a term of which there is one of each type; the marks are those around a block of its type.
func (m *pieceMaker) either(term func(depth int) string, marks string, depth int) string {
	open, shut := " "+marks[:1]+" ", " "+marks[1:]
	switch m.Intn(3) {
	case 0:
		return "if " + m.exp(depth) + open + term(depth) + shut + open + term(depth) + shut
	case 1:
		name := string("uvw"[m.Intn(3)])
		return "new " + name + " = " + m.exp(depth) + open + m.within(term, depth, name) + shut
	}
	name := string("pqxyfgh"[m.Intn(7)])
	head := heads()[name]
	body := "{ " + m.within(m.com, depth, paramsOf(head)...) + " }"
	if strings.HasSuffix(head, "exp") {
		body = "[ " + m.within(m.exp, depth, paramsOf(head)...) + " ]"
	}
	return "proc " + head + " " + body + open + m.within(term, depth, name) + shut
}

// paramsOf returns the names of the parameters of a head.
func paramsOf(head string) []string {
	inside := head[strings.Index(head, "(")+1 : strings.Index(head, ")")]
	var names []string
	for _, param := range strings.Split(inside, ", ") {
		if name, _, ok := strings.Cut(param, " : "); ok {
			names = append(names, name)
		}
	}
	return names
}

func (m *pieceMaker) call(name string, depth int) string {
	switch name {
	case "f":
		return fmt.Sprintf("f({ %s })", m.com(depth))
	case "g":
		return fmt.Sprintf("g(%s, %s)", m.exp(depth), m.exp(depth))
	}
	return fmt.Sprintf("h(%s, { %s }, %s)", m.exp(depth), m.com(depth), m.exp(depth))
}

// nesting makes a command of calls, blocks and exits in one another.
func (m *pieceMaker) nesting(depth int) string {
	if depth <= 0 {
		if label, ok := m.one("kl"); ok {
			return "exit " + label
		}
		return "skip"
	}
	depth--
	switch m.Intn(8) {
	case 0:
		return "f({ " + m.nesting(depth) + " })"
	case 1:
		return "h(0, { " + m.nesting(depth) + " }, 1)"
	case 2:
		return "h(do { " + m.nesting(depth) + " } [ 1 ], { skip }, 1)"
	case 3:
		return "new u = g(do { " + m.nesting(depth) + " } [ 1 ], 2) { skip }"
	case 4:
		return "proc q(p : com) : com { f({ p }) } { q({ " + m.nesting(depth) + " }) }"
	case 5:
		return m.nesting(depth) + "; " + m.nesting(depth)
	}
	label := string("kl"[m.Intn(2)])
	return "block " + label + " { " + m.within(m.nesting, depth, label) + " }"
}
