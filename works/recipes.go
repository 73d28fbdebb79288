package works

import (
	"cmp"
	"slices"
	"strings"

	"tinplate/api"
	"tinplate/code"
	"tinplate/lang"
)

// extend adds a line to the recipes, and returns the types of all definitions.
func (f *floor) extend(line string) ([]api.Scheme, api.Errno) {
	text := f.recipes + line + "\n"
	s, _, err := lang.Parse(text)
	if err != api.OK {
		return nil, err
	}
	types, _, err := lang.Infer(s)
	if err != api.OK {
		return nil, err
	}
	if _, err := code.Compile(s); err != api.OK {
		return nil, err
	}
	f.recipes = text
	return types, api.OK
}

// unit declares a unit.
type unit struct{ name string }

func (c unit) apply(f *floor) (string, api.Errno) {
	if _, err := f.extend("unit " + c.name); err != api.OK {
		return "", err
	}
	return "ok", api.OK
}

// recipe defines a recipe.
type recipe struct{ words []string }

func (c recipe) apply(f *floor) (string, api.Errno) {
	types, err := f.extend("let " + strings.Join(c.words, " "))
	if err != api.OK {
		return "", err
	}
	return described(types[len(types)-1]), api.OK
}

// described returns a type in words: its rows, and what is fixed for each unit.
func described(t api.Scheme) string {
	var rows []string
	for _, row := range t.Rows {
		rows = append(rows, listed(row, ","))
	}
	words := []string{cmp.Or(strings.Join(rows, ";"), "-")}
	for _, fixed := range t.Fixed {
		words = append(words, listed(fixed, ","))
	}
	return strings.Join(words, " ")
}

// value computes a recipe.
type value struct {
	name string
	args []api.Ratio
}

func (c value) execute(w *Works) (string, api.Errno) {
	s, _, _ := lang.Parse(w.floor.recipes) // without an error, as each line was accepted
	i := slices.IndexFunc(s.Defs, func(d api.Def) bool { return d.Name == c.name })
	if i < 0 {
		return "", api.ErrNone
	}
	compiled, _ := code.Compile(s) // without an error, for the same reason
	ones := slices.Repeat([]api.Ratio{{Num: 1, Den: 1}}, len(s.Units))
	result, _, err := code.Run(compiled, i, c.args, ones, api.MaxFuel)
	if err != api.OK {
		return "", err
	}
	return written(result), api.OK
}
