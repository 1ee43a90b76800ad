package moves

import "doppelganger/api"

// arguments is a set of arguments by name of the declared names, a bit for each.
type arguments uint64

// argument returns the argument that what stands in a spot is; none if it is not an argument by name.
func (u *unfolded) argument(s spot) arguments {
	if s.up == nowhere || u.places[s.up].kind != api.Call {
		return 0
	}
	name := u.places[s.up].of
	if u.decls[name].Args[s.turn] == api.Val {
		return 0
	}
	return 1 << (name*api.MaxArgs + s.turn)
}

// beyondBorder reports whether an exit leaves an argument of a call for a block that stands within the same argument of another call of the same name.
func (u *unfolded) beyondBorder() bool {
	for at := range u.places {
		if u.places[at].kind == api.Exit && u.crosses(at) {
			return true
		}
	}
	return false
}

// crosses reports whether it is so of one exit.
func (u *unfolded) crosses(exit int) bool {
	block := u.places[exit].of
	outside := u.places[block].inside
	for at := exit; at != block && outside != 0; at = u.places[at].up {
		if u.argument(u.places[at].spot)&outside != 0 {
			return true
		}
	}
	return false
}
