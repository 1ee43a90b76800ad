package lang

import (
	"slices"

	"doppelganger/api"
)

// countLetters returns how many letters a text begins with.
func countLetters(text string) int {
	count := 0
	for count < len(text) && 'a' <= text[count] && text[count] <= 'z' {
		count++
	}
	return count
}

func isDigit(part string) bool {
	return len(part) == 1 && '0' <= part[0] && part[0] < '0'+api.Width
}

func validName(name string) bool {
	if len(name) < 1 || len(name) > api.MaxName || countLetters(name) != len(name) {
		return false
	}
	switch name {
	case "skip", "stop", "fault", "if", "while", "new", "proc", "block", "exit", "do", "com", "exp", "val":
		return false
	}
	return true
}

func validResult(typ api.Type) bool {
	return typ == api.Com || typ == api.Exp
}

func validType(typ api.Type) bool {
	return validResult(typ) || typ == api.Val
}

// validDecls reports whether a text can have these declarations.
func validDecls(decls []api.Decl) bool {
	if len(decls) > api.MaxDecls {
		return false
	}
	var names []string
	for _, decl := range decls {
		if !validName(decl.Name) || slices.Contains(names, decl.Name) || !validResult(decl.Result) || len(decl.Args) > api.MaxArgs {
			return false
		}
		for _, arg := range decl.Args {
			if !validType(arg) {
				return false
			}
		}
		names = append(names, decl.Name)
	}
	return true
}

// validParams reports whether a head can have these parameters.
func validParams(params []api.Param) bool {
	if len(params) > api.MaxArgs {
		return false
	}
	var names []string
	for _, param := range params {
		if !validName(param.Name) || slices.Contains(names, param.Name) || !validType(param.Type) {
			return false
		}
		names = append(names, param.Name)
	}
	return true
}
