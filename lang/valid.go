package lang

import (
	"slices"

	"doppelganger/api"
	"doppelganger/words"
)

func validResult(typ api.Type) bool {
	return typ == api.Com || typ == api.Exp
}

func validType(typ api.Type) bool {
	return validResult(typ) || typ == api.Val
}

// validDecls reports whether a text can have these declarations.
func validDecls(decls []api.Decl) bool {
	if len(decls) > api.MaxDecls {
		return false
	}
	var names []string
	for _, decl := range decls {
		if !words.IsName(decl.Name) || slices.Contains(names, decl.Name) || !validResult(decl.Result) || len(decl.Args) > api.MaxArgs {
			return false
		}
		for _, arg := range decl.Args {
			if !validType(arg) {
				return false
			}
		}
		names = append(names, decl.Name)
	}
	return true
}

// validParams reports whether a head can have these parameters.
func validParams(params []api.Param) bool {
	if len(params) > api.MaxArgs {
		return false
	}
	var names []string
	for _, param := range params {
		if !words.IsName(param.Name) || slices.Contains(names, param.Name) || !validType(param.Type) {
			return false
		}
		names = append(names, param.Name)
	}
	return true
}
