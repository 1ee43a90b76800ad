package tell

import (
	"math/rand"
	"strconv"
	"strings"
	"testing"

	"doppelganger/api"
	"doppelganger/lang"
)

// maker makes the texts of random terms. What is called has the same signature wherever it is bound; variables and labels have names of their own.
type maker struct {
	*rand.Rand
	ties         *rand.Rand // decides in which way something is said, if there are several that come to the same; nil: the plainest one
	calls        []api.Decl // what can be called here
	vars, labels string     // those that are bound here
}

// signatures returns what names may be called, whether they are declared or bound by a procedure or a parameter.
func signatures() []api.Decl {
	return []api.Decl{
		{Name: "p"}, {Name: "q"},
		{Name: "x", Result: api.Exp}, {Name: "y", Result: api.Exp},
		{Name: "e", Args: []api.Type{api.Com}, Result: api.Exp},
		{Name: "f", Args: []api.Type{api.Com}},
		{Name: "g", Args: []api.Type{api.Exp, api.Val}, Result: api.Exp},
		{Name: "h", Args: []api.Type{api.Val, api.Com, api.Com}},
		{Name: "v", Args: []api.Type{api.Val, api.Val, api.Val}, Result: api.Exp},
	}
}

// declsOf returns the signatures of some names.
func declsOf(names string) []api.Decl {
	var decls []api.Decl
	for _, one := range signatures() {
		if strings.Contains(names, one.Name) {
			decls = append(decls, one)
		}
	}
	return decls
}

func newMaker(seed int, decls []api.Decl) *maker {
	return &maker{Rand: rand.New(rand.NewSource(int64(seed))), calls: decls}
}

// text returns a piece with some declarations.
func text(decls []api.Decl, typ api.Type, term string) string {
	var list []string
	for _, decl := range decls {
		one := decl.Name
		if len(decl.Args) > 0 {
			var types []string
			for _, arg := range decl.Args {
				types = append(types, typeWord(arg))
			}
			one += "(" + strings.Join(types, ", ") + ")"
		}
		list = append(list, one+" : "+typeWord(decl.Result))
	}
	return strings.Join(list, ", ") + " |- " + typeWord(typ) + " : " + term
}

func typeWord(typ api.Type) string {
	return []string{"com", "exp", "val"}[typ]
}

func block(typ api.Type, term string) string {
	if typ == api.Com {
		return "{ " + term + " }"
	}
	return "[ " + term + " ]"
}

// whole makes a term of some depth.
func (m *maker) whole(typ api.Type) string {
	depth := 1 + m.Intn(4)
	if m.Intn(3) == 0 {
		return m.leaving(typ, depth)
	}
	return m.term(typ, depth)
}

// within makes a term where more is bound.
func (m *maker) within(typ api.Type, depth int, calls []api.Decl, vars, labels string) string {
	before := *m
	m.calls = append(calls[:len(calls):len(calls)], m.calls...)
	m.vars += vars
	m.labels += labels
	t := m.term(typ, depth)
	m.calls, m.vars, m.labels = before.calls, before.vars, before.labels
	return t
}

// term makes a term, which is at times put in another way.
func (m *maker) term(typ api.Type, depth int) string {
	var t string
	if typ == api.Com {
		t = m.com(depth)
	} else {
		t = m.exp(depth)
	}
	if m.ties == nil || m.ties.Intn(4) > 0 {
		return t
	}
	switch m.ties.Intn(5) {
	case 0:
		return "if 1 " + block(typ, t) + " " + block(typ, "stop")
	case 1:
		return "new z = 0 " + block(typ, t)
	case 2:
		return "proc s(t : " + typeWord(typ) + ") : " + typeWord(typ) + " " + block(typ, "t") + " " + block(typ, "s("+m.handed(typ, t)+")")
	}
	if typ == api.Exp {
		return "do { skip } [ " + t + " ]"
	}
	return []string{"skip; " + t, "block z { " + t + " }"}[m.ties.Intn(2)]
}

func (m *maker) com(depth int) string {
	if depth <= 0 {
		return m.leaf(api.Com)
	}
	depth--
	switch m.Intn(12) {
	case 0, 1, 2:
		return m.term(api.Com, depth) + "; " + m.term(api.Com, depth)
	case 3:
		if m.vars != "" {
			return string(m.vars[m.Intn(len(m.vars))]) + " := " + m.term(api.Exp, depth)
		}
	case 4, 5:
		label := string("kl"[m.Intn(2)])
		return "block " + label + " { " + m.within(api.Com, depth, nil, "", label) + " }"
	case 6:
		return "while " + m.term(api.Exp, depth) + " { " + m.term(api.Com, depth) + " }"
	}
	return m.either(api.Com, depth)
}

func (m *maker) exp(depth int) string {
	if depth <= 0 {
		return m.leaf(api.Exp)
	}
	depth--
	switch m.Intn(8) {
	case 0, 1:
		mark := []string{"+", "-", "*", "==", "<"}[m.Intn(5)]
		return "(" + m.term(api.Exp, depth) + " " + mark + " " + m.term(api.Exp, depth) + ")"
	case 2:
		return "do { " + m.term(api.Com, depth) + " } [ " + m.term(api.Exp, depth) + " ]"
	}
	return m.either(api.Exp, depth)
}

// leaf makes a term that has no other ones in it, unless a call needs some.
func (m *maker) leaf(typ api.Type) string {
	if m.labels != "" && m.Intn(3) == 0 {
		return m.exit()
	}
	if m.Intn(4) > 0 {
		if t, ok := m.call(typ, 0); ok {
			return t
		}
	}
	switch m.Intn(30) {
	case 0:
		return "stop"
	case 1:
		return "fault"
	}
	if typ == api.Com {
		return "skip"
	}
	if m.vars != "" && m.Intn(2) == 0 {
		return string(m.vars[m.Intn(len(m.vars))])
	}
	return strconv.Itoa(m.Intn(api.Width))
}

// leaving makes a term in which a call may be left by an exit.
func (m *maker) leaving(typ api.Type, depth int) string {
	before := m.labels
	m.labels += "k"
	call, ok := m.call(api.Com, depth)
	m.labels = before
	t := m.term(typ, depth-1)
	switch {
	case !ok:
		return t
	case typ == api.Exp:
		return "do { block k { " + call + " } } [ " + t + " ]"
	}
	return "block k { " + call + " }; " + t
}

func (m *maker) exit() string {
	return "exit " + string(m.labels[m.Intn(len(m.labels))])
}

// either makes a term of which there is one of each type.
func (m *maker) either(typ api.Type, depth int) string {
	switch m.Intn(8) {
	case 0, 1:
		return "if " + m.term(api.Exp, depth) + " " + block(typ, m.term(typ, depth)) + " " + block(typ, m.term(typ, depth))
	case 2:
		name := string("abc"[m.Intn(3)])
		return "new " + name + " = " + m.term(api.Exp, depth) + " " + block(typ, m.within(typ, depth, nil, name, ""))
	case 3:
		all := signatures()
		return m.proc(all[m.Intn(len(all))], depth-1) + " " + block(typ, m.term(typ, depth))
	}
	if t, ok := m.call(typ, depth); ok {
		return t
	}
	return m.term(typ, depth)
}

// proc makes a procedure, up to its block.
func (m *maker) proc(decl api.Decl, depth int) string {
	names := map[api.Type][]string{api.Com: {"p", "q"}, api.Exp: {"x", "y"}, api.Val: {"a", "b", "c"}}
	var params []string
	var inner []api.Decl
	vars := ""
	for _, arg := range decl.Args {
		name := names[arg][0]
		names[arg] = names[arg][1:]
		params = append(params, name+" : "+typeWord(arg))
		if arg == api.Val {
			vars += name
		} else {
			inner = append(inner, api.Decl{Name: name, Result: arg})
		}
	}
	head := "proc " + decl.Name + "(" + strings.Join(params, ", ") + ") : " + typeWord(decl.Result)
	return head + " " + block(decl.Result, m.within(decl.Result, depth, inner, vars, ""))
}

// call makes a call, if there is something to call.
func (m *maker) call(typ api.Type, depth int) (string, bool) {
	var fitting []api.Decl
	for _, decl := range m.calls {
		if decl.Result == typ && (depth > 0 || len(decl.Args) == 0 || m.Intn(4) == 0) {
			fitting = append(fitting, decl)
		}
	}
	if len(fitting) == 0 {
		return "", false
	}
	decl := fitting[m.Intn(len(fitting))]
	if len(decl.Args) == 0 {
		return decl.Name, true
	}
	var args []string
	for _, arg := range decl.Args {
		one := api.Com
		if arg != api.Com {
			one = api.Exp
		}
		t := m.term(one, depth-1)
		if arg == api.Com && m.labels != "" && m.Intn(2) == 0 {
			t += "; " + m.exit()
		}
		args = append(args, m.handed(one, t))
	}
	return decl.Name + "(" + strings.Join(args, ", ") + ")", true
}

// handed returns an argument.
func (m *maker) handed(typ api.Type, t string) string {
	if typ == api.Com {
		return block(typ, t)
	}
	return t
}

// piece returns the piece of a random text, if no limit is in its way.
func piece(t *testing.T, text string) (*lang.Piece, bool) {
	t.Helper()
	p, err := lang.Read(text)
	if err != api.OK && err != api.ErrFull && len(text) <= api.MaxText {
		t.Fatalf("no piece: %d, %q", err, text)
	}
	return p, err == api.OK
}
