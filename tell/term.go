package tell

import (
	"doppelganger/api"
	"doppelganger/terms"
)

func stop() terms.Term {
	return terms.Of(api.Node{Kind: api.Stop})
}

func fault() terms.Term {
	return terms.Of(api.Node{Kind: api.Fault})
}

// row returns the row of some steps.
func row(first terms.Term, more ...terms.Term) terms.Term {
	for _, step := range more {
		first = terms.Of(api.Node{Kind: api.Seq}, first, step)
	}
	return first
}

// when returns the choice of the first part if all conditions are true, and of the second one otherwise.
func when(yes, no terms.Term, conditions ...terms.Term) terms.Term {
	if len(conditions) == 0 {
		return yes
	}
	return terms.Of(api.Node{Kind: api.If}, product(conditions[0], conditions[1:]...), yes, no)
}

// product returns what is true if all factors are: each of them is 0 or 1.
func product(first terms.Term, more ...terms.Term) terms.Term {
	for _, factor := range more {
		first = terms.Of(api.Node{Kind: api.Mul, Type: api.Exp}, first, factor)
	}
	return first
}

// is returns what is true if a variable has a value.
func is(variable string, value int) terms.Term {
	return terms.Of(api.Node{Kind: api.Equal, Type: api.Exp}, terms.Read(variable), terms.Number(value))
}

func set(variable string, value int) terms.Term {
	return terms.Of(api.Node{Kind: api.Assign, Name: variable}, terms.Number(value))
}
