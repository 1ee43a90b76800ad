package lang

import (
	"strconv"
	"strings"

	"doppelganger/api"
)

// spell writes a text of nodes with all parentheses that may stand there; rows have none, so they are spelt from the left.
func spell(decls []api.Decl, typ api.Type, nodes []api.Node) string {
	var list []string
	for _, d := range decls {
		text := d.Name
		for i, arg := range d.Args {
			text += []string{"(", ", "}[min(i, 1)] + typeWord(arg)
		}
		if len(d.Args) > 0 {
			text += ")"
		}
		list = append(list, text+" : "+typeWord(d.Result))
	}
	return strings.Join(list, ", ") + " |- " + typeWord(typ) + " : " + spellNode(nodes, 0)
}

func spellNode(nodes []api.Node, at int) string {
	n := nodes[at]
	var kids []string
	for _, kid := range n.Kids {
		kids = append(kids, spellNode(nodes, kid))
	}
	in := func(i int) string {
		if nodes[n.Kids[i]].Type == api.Com {
			return " { " + kids[i] + " } "
		}
		return " [ " + kids[i] + " ] "
	}
	switch n.Kind {
	case api.Skip:
		return "skip"
	case api.Stop:
		return "stop"
	case api.Fault:
		return "fault"
	case api.Seq:
		return kids[0] + " ; " + kids[1]
	case api.Assign:
		return n.Name + " := " + kids[0]
	case api.If:
		return "if " + kids[0] + in(1) + in(2)
	case api.While:
		return "while " + kids[0] + in(1)
	case api.New:
		return "new " + n.Name + " = " + kids[0] + in(1)
	case api.Call:
		return n.Name + spellArgs(nodes, n.Kids, kids)
	case api.Proc:
		var params []string
		for _, p := range n.Params {
			params = append(params, p.Name+" : "+typeWord(p.Type))
		}
		return "proc " + n.Name + "(" + strings.Join(params, ", ") + ") : " + typeWord(n.Result) + in(0) + in(1)
	case api.Num:
		return strconv.Itoa(n.Value)
	case api.Read:
		return n.Name
	case api.Do:
		return "do" + in(0) + in(1)
	case api.Block:
		return "block " + n.Name + in(0)
	case api.Exit:
		return "exit " + n.Name
	}
	mark := map[int]string{api.Add: "+", api.Sub: "-", api.Mul: "*", api.Equal: "==", api.Less: "<"}[n.Kind]
	return "( ( " + kids[0] + " ) " + mark + " ( " + kids[1] + " ) )"
}

func spellArgs(nodes []api.Node, places []int, kids []string) string {
	var args []string
	for i, at := range places {
		if nodes[at].Type == api.Com {
			kids[i] = "{ " + kids[i] + " }"
		}
		args = append(args, kids[i])
	}
	if len(args) == 0 {
		return ""
	}
	return "(" + strings.Join(args, ", ") + ")"
}
