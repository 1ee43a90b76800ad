package moves

import "doppelganger/api"

// question returns the question about the piece.
func question() api.Move {
	return api.Move{}
}

// letters returns the moves of a piece with declarations, in the order of names, and a type.
func letters(decls []api.Decl, typ api.Type) []api.Move {
	list := []api.Move{question()}
	list = append(list, answers("", 0, typ)...)
	list = append(list, api.Move{Fault: true})
	for _, decl := range decls {
		list = append(list, questions(decl)...)
		list = append(list, answers(decl.Name, 0, decl.Result)...)
		for _, asked := range argumentQuestions(decl) {
			list = append(list, asked)
			list = append(list, answers(asked.Name, asked.Arg, decl.Args[asked.Arg-1])...)
		}
	}
	return list
}

// questions returns the questions about a name, by the values that are handed over.
func questions(decl api.Decl) []api.Move {
	count := 1
	for _, arg := range decl.Args {
		if arg == api.Val {
			count *= api.Width
		}
	}
	var list []api.Move
	for value := range count {
		list = append(list, api.Move{Name: decl.Name, Value: value})
	}
	return list
}

// argumentQuestions returns the questions about the arguments by name of a name.
func argumentQuestions(decl api.Decl) []api.Move {
	var list []api.Move
	for i, arg := range decl.Args {
		if arg != api.Val {
			list = append(list, api.Move{Name: decl.Name, Arg: i + 1})
		}
	}
	return list
}

// answers returns the answers to a question about what has a type.
func answers(name string, arg int, typ api.Type) []api.Move {
	count := 1
	if typ == api.Exp {
		count = api.Width
	}
	var list []api.Move
	for value := range count {
		list = append(list, api.Move{Name: name, Arg: arg, Answer: true, Value: value})
	}
	return list
}
