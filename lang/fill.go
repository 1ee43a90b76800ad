package lang

import (
	"slices"

	"doppelganger/api"
)

// Fill returns a context in which a piece stands in the place of each call of hole.
func Fill(context, piece *Piece) (*Piece, api.Errno) {
	if !context.valid() || !piece.valid() {
		return nil, api.ErrArg
	}
	at := slices.IndexFunc(context.decls, func(decl api.Decl) bool { return decl.Name == "hole" && len(decl.Args) == 0 })
	if at < 0 {
		return nil, api.ErrNone
	}
	if context.decls[at].Result != piece.typ {
		return nil, api.ErrType
	}
	err := api.OK
	r := newReader(context.decls)
	r.bindings[at].sort = hole
	r.visit = func(t term) term {
		if !r.isHole(t) {
			return nil
		}
		if err == api.OK {
			err = r.wrongAround(piece)
		}
		return piece.root
	}
	root := r.read(context.root)
	if err != api.OK {
		return nil, err
	}
	rest := slices.Concat(context.decls[:at], context.decls[at+1:])
	return newPiece(rest, context.typ, root)
}

func (b *bindings) isHole(t term) bool {
	c, ok := t.(call)
	if !ok {
		return false
	}
	found, _ := b.find(c.name)
	return found.sort == hole
}

// wrongAround returns what is wrong with what binds the names that a piece declares. The hole binds nothing, as it is gone when the piece stands there.
func (b *bindings) wrongAround(piece *Piece) api.Errno {
	for _, decl := range piece.decls {
		found, ok := b.find(decl.Name)
		switch {
		case !ok || found.sort == hole:
			return api.ErrName
		case !found.fits(decl):
			return api.ErrType
		}
	}
	return api.OK
}
