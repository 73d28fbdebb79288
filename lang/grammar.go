package lang

import "tinplate/api"

// The levels of the grammar: an expression in the place of one of a higher level stands in parentheses.
const (
	levelExpr = iota
	levelSum
	levelTerm
	levelPower
	levelAtom
)

// kinds tells of each kind of expression its level, how many parts it has (a call may have any number), and the sign
// between them.
var kinds = [...]struct {
	level, parts int
	sign         string
}{
	api.ExprNum:  {level: levelAtom},
	api.ExprVar:  {level: levelAtom},
	api.ExprCall: {level: levelAtom},
	api.ExprAdd:  {level: levelSum, parts: 2, sign: "+"},
	api.ExprSub:  {level: levelSum, parts: 2, sign: "-"},
	api.ExprMul:  {level: levelTerm, parts: 2, sign: "*"},
	api.ExprDiv:  {level: levelTerm, parts: 2, sign: "/"},
	api.ExprPow:  {level: levelPower, parts: 1},
	api.ExprRoot: {level: levelAtom, parts: 1},
	api.ExprIf:   {level: levelExpr, parts: 4},
}

// signed returns the kind of expression that has this sign, at the level of sums or at that of terms: false if there is
// none.
func signed(level int, sign string) (int, bool) {
	for kind, k := range kinds {
		if k.level == level && k.sign == sign {
			return kind, true
		}
	}
	return 0, false
}
