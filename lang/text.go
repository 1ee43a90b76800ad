package lang

import (
	"strconv"
	"strings"

	"doppelganger/api"
)

// writer puts a plain text together.
type writer struct {
	strings.Builder
}

func (w *writer) add(parts ...string) {
	for _, part := range parts {
		w.WriteString(part)
	}
}

func (w *writer) piece(p *Piece) {
	for i, decl := range p.decls {
		if i > 0 {
			w.add(", ")
		}
		w.decl(decl)
	}
	if len(p.decls) > 0 {
		w.add(" ")
	}
	w.add("|- ", typeWord(p.typ), " : ")
	w.term(p.root)
}

func typeWord(typ api.Type) string {
	switch typ {
	case api.Com:
		return "com"
	case api.Exp:
		return "exp"
	}
	return "val"
}

func (w *writer) decl(decl api.Decl) {
	w.add(decl.Name)
	if len(decl.Args) > 0 {
		var args []string
		for _, arg := range decl.Args {
			args = append(args, typeWord(arg))
		}
		w.add("(", strings.Join(args, ", "), ")")
	}
	w.add(" : ", typeWord(decl.Result))
}

func (w *writer) term(t term) {
	switch t := t.(type) {
	case skip:
		w.add("skip")
	case stop:
		w.add("stop")
	case fault:
		w.add("fault")
	case row:
		w.row(t)
	case assign:
		w.add(t.name, " := ")
		w.term(t.value)
	case choice:
		w.add("if ")
		w.term(t.test)
		w.blocks(t.yes, t.no)
	case loop:
		w.add("while ")
		w.term(t.test)
		w.blocks(t.body)
	case fresh:
		w.add("new ", t.name, " = ")
		w.term(t.value)
		w.blocks(t.block)
	case call:
		w.call(t)
	case proc:
		w.head(t)
		w.blocks(t.body, t.block)
	case num:
		w.add(strconv.Itoa(t.value))
	case read:
		w.add(t.name)
	case binary:
		w.binary(t)
	case doing:
		w.add("do")
		w.blocks(t.first, t.value)
	case labelled:
		w.add("block ", t.name)
		w.blocks(t.body)
	case exit:
		w.add("exit ", t.name)
	}
}

func (w *writer) row(t row) {
	for i, step := range t.steps {
		if i > 0 {
			w.add("; ")
		}
		w.term(step)
	}
}

// blocks writes terms as blocks, with a space ahead of each.
func (w *writer) blocks(list ...term) {
	for _, t := range list {
		w.add(" ")
		w.block(t)
	}
}

func (w *writer) block(t term) {
	left, right := "{ ", " }"
	if typeOf(t) == api.Exp {
		left, right = "[ ", " ]"
	}
	w.add(left)
	w.term(t)
	w.add(right)
}

func (w *writer) call(t call) {
	w.add(t.name)
	if len(t.args) == 0 {
		return
	}
	w.add("(")
	for i, arg := range t.args {
		if i > 0 {
			w.add(", ")
		}
		if typeOf(arg) == api.Com {
			w.block(arg)
		} else {
			w.term(arg)
		}
	}
	w.add(")")
}

func (w *writer) head(t proc) {
	w.add("proc ", t.name, "(")
	for i, param := range t.params {
		if i > 0 {
			w.add(", ")
		}
		w.add(param.Name, " : ", typeWord(param.Type))
	}
	w.add(") : ", typeWord(t.result))
}

// The ranks of operators.
const (
	lowRank = iota
	middleRank
	highRank
)

// operator returns the mark of an operator and its rank.
func operator(kind int) (mark string, rank int) {
	switch kind {
	case api.Equal:
		return "==", lowRank
	case api.Less:
		return "<", lowRank
	case api.Add:
		return "+", middleRank
	case api.Sub:
		return "-", middleRank
	}
	return "*", highRank
}

func (w *writer) binary(t binary) {
	mark, rank := operator(t.kind)
	leftRank := rank
	if rank == lowRank {
		leftRank++ // a comparison is not put together from the left: it has no further one beside it
	}
	w.operand(t.left, leftRank)
	w.add(" ", mark, " ")
	w.operand(t.right, rank+1)
}

// operand writes an operand, in parentheses if it is an operator of a rank below the least one.
func (w *writer) operand(t term, least int) {
	if inner, ok := t.(binary); ok {
		if _, rank := operator(inner.kind); rank < least {
			w.add("(")
			w.binary(inner)
			w.add(")")
			return
		}
	}
	w.term(t)
}
