// Package lang is layer 1: pieces of programs, their texts, types, and contexts with holes.
package lang

import (
	"slices"
	"strings"

	"doppelganger/api"
)

// Piece is a term with its type and the declarations of its free names.
type Piece struct {
	decls []api.Decl // in the order of names
	typ   api.Type
	root  term // nil in the zero value, which is no piece
}

// Read returns the piece of a text.
func Read(text string) (*Piece, api.Errno) {
	decls, typ, root, ok := parse(text)
	if !ok {
		return nil, api.ErrForm
	}
	root, err := resolve(decls, root)
	if err != api.OK {
		return nil, err
	}
	return newPiece(decls, typ, root)
}

// Build returns the piece of some nodes.
func Build(decls []api.Decl, typ api.Type, nodes []api.Node) (*Piece, api.Errno) {
	if !validDecls(decls) || !wellFormed(typ, nodes) {
		return nil, api.ErrArg
	}
	if tooDeep(nodes) {
		return nil, api.ErrFull
	}
	root := builder(nodes).term(0)
	if err := check(decls, root); err != api.OK {
		return nil, err
	}
	return newPiece(decls, typ, root)
}

// Text returns the plain text of a piece.
func (p *Piece) Text() string {
	if !p.valid() {
		return ""
	}
	w := &writer{}
	w.piece(p)
	return w.String()
}

// Decls returns the declarations, in the order of names.
func (p *Piece) Decls() []api.Decl {
	if !p.valid() {
		return nil
	}
	return copyDecls(p.decls)
}

// Type returns the type.
func (p *Piece) Type() api.Type {
	if !p.valid() {
		return api.Com
	}
	return p.typ
}

// Nodes returns the nodes of the term.
func (p *Piece) Nodes() []api.Node {
	if !p.valid() {
		return nil
	}
	return appendNodes(nil, p.root)
}

func (p *Piece) valid() bool {
	return p != nil && p.root != nil
}

// newPiece returns the piece of what is right but for the limits.
func newPiece(decls []api.Decl, typ api.Type, root term) (*Piece, api.Errno) {
	if nodes, level := measure(root, 1); nodes > api.MaxNodes || level > api.MaxNest {
		return nil, api.ErrFull
	}
	decls = copyDecls(decls)
	slices.SortFunc(decls, func(a, b api.Decl) int { return strings.Compare(a.Name, b.Name) })
	return &Piece{decls, typ, root}, api.OK
}

func copyDecls(decls []api.Decl) []api.Decl {
	list := slices.Clone(decls)
	for i := range list {
		list[i].Args = slices.Clone(list[i].Args)
	}
	return list
}
