package lang

import (
	"slices"

	"tinplate/api"
)

// find returns the index of a definition: -1 if there is none of that name.
func find(defs []api.Def, name string) int {
	return slices.IndexFunc(defs, func(d api.Def) bool { return d.Name == name })
}

func addUnit(s *api.Source, name string) api.Errno {
	if len(s.Units) >= api.MaxUnits {
		return api.ErrLimit
	}
	if slices.Contains(s.Units, name) {
		return api.ErrExists
	}
	s.Units = append(s.Units, name)
	return api.OK
}

func addDef(s *api.Source, def api.Def) api.Errno {
	if len(s.Defs) >= api.MaxDefs {
		return api.ErrLimit
	}
	if find(s.Defs, def.Name) >= 0 || repeats(def.Params) {
		return api.ErrExists
	}
	if err := checkNames(*s, def.Body); err != api.OK {
		return err
	}
	s.Defs = append(s.Defs, def)
	return api.OK
}

func repeats(names []string) bool {
	for i, name := range names {
		if slices.Contains(names[:i], name) {
			return true
		}
	}
	return false
}

// checkNames checks the units and the calls of an expression, in the order in which they are written.
func checkNames(s api.Source, e api.Expr) api.Errno {
	for _, unit := range e.Units {
		if !slices.Contains(s.Units, unit.Name) {
			return api.ErrNone
		}
	}
	if e.Kind == api.ExprCall {
		i := find(s.Defs, e.Name)
		if i < 0 {
			return api.ErrNone
		}
		if len(e.Parts) != len(s.Defs[i].Params) {
			return api.ErrArg
		}
	}
	for _, part := range e.Parts {
		if err := checkNames(s, part); err != api.OK {
			return err
		}
	}
	return api.OK
}
