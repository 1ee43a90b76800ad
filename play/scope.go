package play

// routine runs the body of a procedure with arguments, or an argument, which has none itself.
type routine func(args []routine) int

// scope is what binds a name at a place, within what is bound around it. Scopes are never changed, so what stands in one finds the same bindings whenever it is run. A label's scope is another one for each run of its block, and thus tells the runs apart.
type scope struct {
	outer *scope
	name  string
	place int     // of a variable: where its value lies
	run   routine // of a procedure, or a parameter by name
}

// find returns what binds a name, which each name of a piece has.
func (s *scope) find(name string) *scope {
	for s.name != name {
		s = s.outer
	}
	return s
}
