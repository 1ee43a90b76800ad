package rules

import (
	"testing"

	"doppelganger/api"
)

// P6.4: errors of Apply, ahead of one another.
func TestApplyErrors(t *testing.T) {
	b := bookOf(t, "com : skip; p ~ p", "com : if 1 { p } { q } ~ p", "com : stop; p ~ stop", "exp : x * 1 ~ x")
	p := mustRead(t, "|- com : if 1 { skip; skip } { stop }")
	for _, i := range []int{-1, 4, 5, 1 << 62, -1 << 62} {
		for _, node := range []int{-1, 0, 1, 99} {
			wantApply(t, b, i, false, p, node, "", api.ErrNone)
			wantApply(t, b, i, true, p, node, "", api.ErrNone)
		}
	}
	for i := range 4 {
		for _, node := range []int{-1, 6, 7, 1 << 62, -1 << 62} {
			wantApply(t, b, i, false, p, node, "", api.ErrArg)
			wantApply(t, b, i, true, p, node, "", api.ErrArg)
		}
	}
	wantApply(t, New(), 0, false, p, 0, "", api.ErrNone)
	wantApply(t, b, 0, false, p, 2, "|- com : if 1 { skip } { stop }", api.OK)
	wantApply(t, b, 1, false, p, 0, "|- com : skip; skip", api.OK)
	for _, node := range []int{0, 1, 3, 4, 5} {
		wantApply(t, b, 0, false, p, node, "", api.ErrApart)
	}
	// The other side calls more: whatever the term is.
	for node := range 6 {
		wantApply(t, b, 1, true, p, node, "", api.ErrApart)
		wantApply(t, b, 2, true, p, node, "", api.ErrApart)
	}
	// Another type than the rule.
	for node := range 6 {
		if node != 1 {
			wantApply(t, b, 3, true, p, node, "", api.ErrApart)
		}
	}
	wantApply(t, b, 3, true, p, 1, "|- com : if 1 * 1 { skip; skip } { stop }", api.OK)
}

// P6.4: a piece may come to have as many nodes as there may be, and to nest as deep, but not more.
func TestApplyLimits(t *testing.T) {
	b := bookOf(t, "com : skip; p ~ p", "com : p ~ block k { p }", "com : p; p ~ proc f(c : com) : com { c; c } { f({ p }) }")
	most := mustRead(t, "|- com : "+skips(api.MaxNodes/2))
	wantApply(t, b, 0, true, most, 0, "", api.ErrFull)
	wantApply(t, b, 0, true, most, len(most.Nodes())-1, "", api.ErrFull)
	wantApply(t, b, 0, false, mustRead(t, "|- com : stop; skip"), 0, "", api.ErrApart)
	less := mustRead(t, "|- com : block k { "+skips(api.MaxNodes/2-1)+" }")
	wantApply(t, b, 0, true, less, 1, "|- com : block k { "+skips(api.MaxNodes/2)+" }", api.OK)
	wantApply(t, b, 1, false, most, 0, "|- com : block k { "+skips(api.MaxNodes/2)+" }", api.OK)
	wantApply(t, b, 1, false, mustRead(t, "|- com : block k { "+skips(api.MaxNodes/2)+" }"), 0, "", api.ErrFull)
	deep := mustRead(t, "|- com : "+nested(api.MaxNest-1, "skip"))
	wantApply(t, b, 1, false, deep, 0, "", api.ErrFull)
	wantApply(t, b, 1, false, deep, api.MaxNest-1, "", api.ErrFull)
	wantApply(t, b, 1, false, mustRead(t, "|- com : "+nested(api.MaxNest-2, "skip")), api.MaxNest-2, "|- com : "+nested(api.MaxNest-2, "block k { skip }"), api.OK)
	// A row stands at one level, however long it is.
	deep = mustRead(t, "|- com : "+nested(api.MaxNest-2, "skip; skip"))
	wantApply(t, b, 0, true, deep, api.MaxNest-2, "|- com : "+nested(api.MaxNest-2, "skip; skip; skip"), api.OK)
	wantApply(t, b, 0, true, deep, api.MaxNest, "|- com : "+nested(api.MaxNest-2, "skip; skip; skip"), api.OK)
	wantApply(t, b, 0, true, mustRead(t, "|- com : "+nested(api.MaxNest-1, "skip")), api.MaxNest-1, "", api.ErrFull)
	// What does not fit is told ahead of what is too great.
	wantApply(t, b, 1, false, mustRead(t, "|- com : block k { "+skips(api.MaxNodes/2-1)+"; exit k }"), 1, "", api.ErrApart)
	// A term that is put twice.
	long := mustRead(t, "|- com : proc f(c : com) : com { c; c } { f({ "+skips(200)+" }) }")
	wantApply(t, b, 2, true, long, 0, "", api.ErrFull)
	long = mustRead(t, "|- com : proc f(c : com) : com { c; c } { f({ "+skips(150)+" }) }")
	wantApply(t, b, 2, true, long, 0, "|- com : "+skips(300), api.OK)
}

// P6.4: a piece keeps its declarations, used or not, and its type.
func TestApplyKeeps(t *testing.T) {
	b := bookOf(t, "com : if 1 { p } { q } ~ p", "exp : x * 1 ~ x")
	wantApply(t, b, 0, false, mustRead(t, "z : exp, f(com, val) : exp, a : com |- com : if 1 { a } { if f({ skip }, 1) { skip } { stop } }"), 0, "a : com, f(com, val) : exp, z : exp |- com : a", api.OK)
	wantApply(t, b, 0, false, mustRead(t, "a : com |- exp : do { if 1 { a } { skip } } [ 3 ]"), 1, "a : com |- exp : do { a } [ 3 ]", api.OK)
	wantApply(t, b, 1, false, mustRead(t, "f(exp, val) : com |- com : f(2 * 1, 3 * 1)"), 4, "f(exp, val) : com |- com : f(2 * 1, 3)", api.OK)
}
