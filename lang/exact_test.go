package lang_test

import (
	"math/big"
	"regexp"
	"slices"
	"strconv"
	"strings"

	"tinplate/api"
)

// What the tests compute on their own, each thing in another way than the package: sources by splitting lists of tokens
// at their last sign, types by elimination with numbers of any length, values with such numbers.

// A book is a source that is read line by line.
type book struct{ api.Source }

var (
	tokenPattern  = regexp.MustCompile(`[a-z0-9]+|[=(),<+\-*/^\[\]]| +`)
	namePattern   = regexp.MustCompile(`^[a-z][a-z0-9]{0,7}$`)
	numberPattern = regexp.MustCompile(`^(0|[1-9][0-9]{0,6})$`)
	wordPattern   = regexp.MustCompile(`^[a-z0-9]+$`)
)

// tokensOf is what a line consists of: false if there is anything else.
func tokensOf(line string) ([]string, bool) {
	var list []string
	length := 0
	for _, token := range tokenPattern.FindAllString(line, -1) {
		length += len(token)
		if strings.Trim(token, " ") != "" {
			list = append(list, token)
		}
	}
	return list, length == len(line)
}

func isName(token string) bool {
	reserved := []string{"unit", "let", "if", "then", "else", "root"}
	return namePattern.MatchString(token) && !slices.Contains(reserved, token)
}

// refParse is what Parse must return.
func refParse(text string) (api.Source, int, api.Errno) {
	if len(text) > 4000 {
		return api.Source{}, 0, api.ErrLimit
	}
	var b book
	for i, line := range strings.Split(text, "\n") {
		if err := b.add(line); err != api.OK {
			return api.Source{}, i + 1, err
		}
	}
	return b.Source, 0, api.OK
}

func (b *book) add(line string) api.Errno {
	tokens, ok := tokensOf(line)
	switch {
	case !ok:
		return api.ErrForm
	case len(tokens) == 0:
		return api.OK
	case tokens[0] == "unit":
		return b.addUnit(tokens[1:])
	case tokens[0] == "let":
		return b.addDef(tokens[1:])
	}
	return api.ErrForm
}

func (b *book) addUnit(tokens []string) api.Errno {
	switch {
	case len(tokens) != 1 || !isName(tokens[0]):
		return api.ErrForm
	case len(b.Units) == 4:
		return api.ErrLimit
	case slices.Contains(b.Units, tokens[0]):
		return api.ErrExists
	}
	b.Units = append(b.Units, tokens[0])
	return api.OK
}

func (b *book) addDef(tokens []string) api.Errno {
	at := slices.Index(tokens, "=")
	if at < 1 || !isName(tokens[0]) {
		return api.ErrForm
	}
	def := api.Def{Name: tokens[0]}
	if at > 1 {
		list := tokens[1:at]
		if len(list)%2 == 0 || len(list) < 3 || len(list) > 7 || list[0] != "(" || list[len(list)-1] != ")" {
			return api.ErrForm
		}
		for i, token := range list[1 : len(list)-1] {
			if i%2 == 0 && !isName(token) || i%2 == 1 && token != "," {
				return api.ErrForm
			}
			if i%2 == 0 {
				def.Params = append(def.Params, token)
			}
		}
	}
	body, ok := refExpr(tokens[at+1:], def.Params)
	if !ok || depth(body) > 20 {
		return api.ErrForm
	}
	def.Body = body
	params := map[string]bool{}
	for _, name := range def.Params {
		params[name] = true
	}
	switch {
	case len(b.Defs) == 12:
		return api.ErrLimit
	case b.arity(def.Name) >= 0 || len(params) < len(def.Params):
		return api.ErrExists
	}
	if err := b.names(tokens[at+1:], def.Params); err != api.OK {
		return err
	}
	b.Defs = append(b.Defs, def)
	return api.OK
}

// arity is how many parameters a definition has: -1 if there is none.
func (b *book) arity(name string) int {
	for _, d := range b.Defs {
		if d.Name == name {
			return len(d.Params)
		}
	}
	return -1
}

// names checks the names of an expression as they stand there.
func (b *book) names(tokens, params []string) api.Errno {
	bracket := false
	for i, token := range tokens {
		bracket = (bracket || token == "[") && token != "]"
		next := append(slices.Clone(tokens), "", "")[i+1]
		switch {
		case !isName(token) || !bracket && next != "(" && slices.Contains(params, token):
		case bracket && !slices.Contains(b.Units, token):
			return api.ErrNone
		case bracket:
		case b.arity(token) < 0:
			return api.ErrNone
		case b.arity(token) != written(tokens[i+1:]):
			return api.ErrArg
		}
	}
	return api.OK
}

// written is how many arguments stand at the beginning of a list of tokens.
func written(tokens []string) int {
	if len(tokens) == 0 || tokens[0] != "(" {
		return 0
	}
	return len(pieces(inside(tokens)))
}

// inside is what stands between the parenthesis with which a list begins and the one that closes it.
func inside(tokens []string) []string {
	open := 0
	for i, token := range tokens {
		open += opens(token)
		if open == 0 {
			return tokens[1:i]
		}
	}
	return nil
}

func opens(token string) int {
	switch token {
	case "(", "[":
		return 1
	case ")", "]":
		return -1
	}
	return 0
}

// pieces are the parts of a list between commas outside of parentheses.
func pieces(tokens []string) [][]string {
	list := [][]string{nil}
	open := 0
	for _, token := range tokens {
		open += opens(token)
		if token == "," && open == 0 {
			list = append(list, nil)
			continue
		}
		list[len(list)-1] = append(list[len(list)-1], token)
	}
	return list
}

// last is the index of the last sign of these, outside of parentheses, that is no minus of an exponent: -1 if there is
// none.
func last(tokens []string, signs ...string) int {
	open, found := 0, -1
	for i, token := range tokens {
		open += opens(token)
		if open == 0 && slices.Contains(signs, token) && i > 0 && tokens[i-1] != "^" {
			found = i
		}
	}
	return found
}

// closing is the index of the word that belongs to an if before the list: -1 if there is none.
func closing(tokens []string, word string) int {
	open, ifs := 0, 0
	for i, token := range tokens {
		open += opens(token)
		switch {
		case open != 0:
		case token == word && ifs == 0:
			return i
		case token == "if":
			ifs++
		case token == "else":
			ifs--
		}
	}
	return -1
}

func refExpr(tokens, params []string) (api.Expr, bool) {
	if len(tokens) == 0 || tokens[0] != "if" {
		return refChain(tokens, params, 0)
	}
	then := closing(tokens[1:], "then") + 1
	if then == 0 {
		return api.Expr{}, false
	}
	otherwise := closing(tokens[then+1:], "else") + then + 1
	less := last(tokens[:then], "<")
	if otherwise == then || less < 0 {
		return api.Expr{}, false
	}
	a, fine1 := refChain(tokens[1:less], params, 0)
	b, fine2 := refChain(tokens[less+1:then], params, 0)
	c, fine3 := refExpr(tokens[then+1:otherwise], params)
	d, fine4 := refExpr(tokens[otherwise+1:], params)
	return api.Expr{Kind: 9, Parts: []api.Expr{a, b, c, d}}, fine1 && fine2 && fine3 && fine4
}

// refChain is a sum (0) or a term (1).
func refChain(tokens, params []string, level int) (api.Expr, bool) {
	next := func(tokens []string) (api.Expr, bool) {
		if level == 0 {
			return refChain(tokens, params, 1)
		}
		return refPower(tokens, params)
	}
	signs := []string{"+", "-", "*", "/"}
	at := last(tokens, signs[2*level:2*level+2]...)
	if at < 0 {
		return next(tokens)
	}
	left, fine1 := refChain(tokens[:at], params, level)
	right, fine2 := next(tokens[at+1:])
	kind := 3 + slices.Index(signs, tokens[at])
	return api.Expr{Kind: kind, Parts: []api.Expr{left, right}}, fine1 && fine2
}

func refPower(tokens, params []string) (api.Expr, bool) {
	at := last(tokens, "^")
	if at < 0 {
		return refAtom(tokens, params)
	}
	base, ok := refAtom(tokens[:at], params)
	n, fine := refExponent(tokens[at+1:])
	return api.Expr{Kind: 7, N: n, Parts: []api.Expr{base}}, ok && fine
}

func refExponent(tokens []string) (int, bool) {
	n, ok := map[string]int{"0": 0, "1": 1, "2": 2, "3": 3, "-1": -1, "-2": -2, "-3": -3}[strings.Join(tokens, "")]
	return n, ok
}

func refAtom(tokens, params []string) (api.Expr, bool) {
	if len(tokens) == 0 {
		return api.Expr{}, false
	}
	head, rest := tokens[0], tokens[1:]
	switch {
	case numberPattern.MatchString(head):
		n, _ := strconv.Atoi(head)
		units, ok := refUnits(rest)
		return api.Expr{Kind: 0, N: n, Units: units}, ok
	case isName(head) && len(rest) == 0 && slices.Contains(params, head):
		return api.Expr{Kind: 1, Name: head}, true
	case isName(head) && len(rest) == 0:
		return api.Expr{Kind: 2, Name: head}, true
	}
	list := tokens
	if isName(head) || head == "root" {
		list = rest
	}
	if len(list) < 3 || list[0] != "(" || list[len(list)-1] != ")" || len(inside(list)) != len(list)-2 {
		return api.Expr{}, false
	}
	var parts []api.Expr
	for _, piece := range pieces(list[1 : len(list)-1]) {
		part, ok := refExpr(piece, params)
		if !ok {
			return api.Expr{}, false
		}
		parts = append(parts, part)
	}
	switch {
	case isName(head):
		return api.Expr{Kind: 2, Name: head, Parts: parts}, true
	case head == "root":
		return api.Expr{Kind: 8, Parts: parts}, len(parts) == 1
	}
	return parts[0], len(parts) == 1
}

func refUnits(tokens []string) ([]api.Unit, bool) {
	if len(tokens) == 0 {
		return nil, true
	}
	if len(tokens) < 3 || tokens[0] != "[" || tokens[len(tokens)-1] != "]" {
		return nil, false
	}
	var list []api.Unit
	tokens = tokens[1 : len(tokens)-1]
	for len(tokens) > 0 {
		if !isName(tokens[0]) {
			return nil, false
		}
		unit := api.Unit{Name: tokens[0], Exp: 1}
		end := 1
		for end < len(tokens) && !isName(tokens[end]) {
			end++
		}
		if end > 1 {
			n, ok := refExponent(tokens[2:end])
			if tokens[1] != "^" || !ok {
				return nil, false
			}
			unit.Exp = n
		}
		list = append(list, unit)
		tokens = tokens[end:]
	}
	return list, true
}

func depth(e api.Expr) int {
	most := 0
	for _, part := range e.Parts {
		most = max(most, depth(part))
	}
	return most + 1
}

// spaced is a line as Print has it.
func spaced(tokens []string) string {
	var b strings.Builder
	for i, token := range tokens {
		if i > 0 && apart(tokens, i) {
			b.WriteString(" ")
		}
		b.WriteString(token)
	}
	return b.String()
}

// apart reports whether there is a blank before a token.
func apart(tokens []string, i int) bool {
	a, b := tokens[i-1], tokens[i]
	around := func(i int) bool {
		return strings.Contains("=<+-*/", tokens[i]) && tokens[i-1] != "^"
	}
	switch {
	case around(i) || i > 1 && around(i-1):
		return true
	case slices.Contains([]string{"if", "then", "else", ","}, a) || b == "then" || b == "else":
		return true
	}
	return wordPattern.MatchString(a) && wordPattern.MatchString(b)
}

// Numbers of any length.

func whole(x int) *big.Int { return big.NewInt(int64(x)) }

func wholes(row []int) []*big.Int {
	var list []*big.Int
	for _, x := range row {
		list = append(list, whole(x))
	}
	return list
}

// subtract changes v to v - q*w.
func subtract(v, w []*big.Int, q *big.Int) {
	for j := range v {
		v[j] = new(big.Int).Sub(v[j], new(big.Int).Mul(q, w[j]))
	}
}

func pivot(v []*big.Int) int {
	return slices.IndexFunc(v, func(x *big.Int) bool { return x.Sign() != 0 })
}

// normalForm is the Hermite normal form by plain elimination. It changes the rows.
func normalForm(rows [][]*big.Int, n int) [][]*big.Int {
	var done [][]*big.Int
	for c := range n {
		var head []*big.Int
		var rest [][]*big.Int
		for _, v := range rows {
			if head == nil && v[c].Sign() != 0 {
				head = v
				continue
			}
			for head != nil && v[c].Sign() != 0 {
				subtract(head, v, new(big.Int).Quo(head[c], v[c]))
				head, v = v, head
			}
			rest = append(rest, v)
		}
		rows = rest
		if head == nil {
			continue
		}
		if head[c].Sign() < 0 {
			subtract(head, head, whole(2))
		}
		for _, v := range done {
			subtract(v, head, new(big.Int).Div(v[c], head[c]))
		}
		done = append(done, head)
	}
	return done
}

// contains reports whether a vector is in the lattice of rows in Hermite normal form.
func contains(form [][]*big.Int, v []*big.Int) bool {
	rest := slices.Clone(v)
	for _, row := range form {
		c := pivot(row)
		subtract(rest, row, new(big.Int).Div(rest[c], row[c]))
	}
	return pivot(rest) < 0
}

// A shape is a form: its numbers are those for the constants of each unit, and then those for each unknown, which may
// be more and more.
type shape map[int]int

func sum(a shape, k int, b shape) shape {
	c := shape{}
	for i, x := range a {
		c[i] += x
	}
	for i, x := range b {
		c[i] += k * x
	}
	return c
}

// An equality is the system of a definition: its unknowns, all its forms, and its equations, which are 0.
type equality struct {
	source   api.Source
	params   []string
	types    map[string]api.Scheme
	unknowns int
	forms    []shape
	zero     []shape
}

func (q *equality) choice() shape {
	q.unknowns++
	return shape{len(q.source.Units) + q.unknowns - 1: 1}
}

// of is the form of an expression.
func (q *equality) of(e api.Expr) shape {
	f := q.find(e)
	q.forms = append(q.forms, f)
	return f
}

func (q *equality) find(e api.Expr) shape {
	var parts []shape
	for _, part := range e.Parts {
		parts = append(parts, q.of(part))
	}
	same := func(a, b shape) { q.zero = append(q.zero, sum(a, -1, b)) }
	switch e.Kind {
	case 0:
		f := shape{}
		free := e.N == 0
		for _, u := range e.Units {
			f[slices.Index(q.source.Units, u.Name)] += u.Exp
		}
		for _, x := range f {
			free = free && x == 0
		}
		if free {
			return q.choice()
		}
		return f
	case 1:
		return shape{len(q.source.Units) + slices.Index(q.params, e.Name): 1}
	case 2:
		t := q.types[e.Name]
		var list []shape
		for i := range t.Params + 1 {
			f := shape{}
			for u, fixed := range t.Fixed {
				f[u] = fixed[i]
			}
			list = append(list, f)
		}
		for _, row := range t.Rows {
			c := q.choice()
			for i, x := range row {
				list[i] = sum(list[i], x, c)
			}
		}
		for i, part := range parts {
			same(part, list[i])
		}
		return list[t.Params]
	case 3, 4:
		same(parts[0], parts[1])
		return parts[0]
	case 5:
		return sum(parts[0], 1, parts[1])
	case 6:
		return sum(parts[0], -1, parts[1])
	case 7:
		return sum(shape{}, e.N, parts[0])
	case 8:
		c := q.choice()
		same(parts[0], sum(c, 1, c))
		return c
	}
	same(parts[0], parts[1])
	same(parts[2], parts[3])
	return parts[2]
}

// system is the system of a definition, and the form of its result.
func system(s api.Source, types map[string]api.Scheme, def api.Def) (*equality, shape) {
	q := &equality{source: s, params: def.Params, types: types, unknowns: len(def.Params)}
	return q, q.of(def.Body)
}

// refInfer is what Infer must return for a valid source.
func refInfer(s api.Source) ([]api.Scheme, int, api.Errno) {
	var list []api.Scheme
	types := map[string]api.Scheme{}
	for i, def := range s.Defs {
		t, err := refType(s, types, def)
		if err != api.OK {
			return nil, i, err
		}
		types[def.Name] = t
		list = append(list, t)
	}
	return list, 0, api.OK
}

func refType(s api.Source, types map[string]api.Scheme, def api.Def) (api.Scheme, api.Errno) {
	q, result := system(s, types, def)
	if q.unknowns > 6 {
		return api.Scheme{}, api.ErrLimit
	}
	for _, f := range slices.Concat(q.forms, q.zero) {
		for _, x := range f {
			if x < -30 || x > 30 {
				return api.Scheme{}, api.ErrRange
			}
		}
	}
	// What is left of the equations comes first; then what each unit's constants were taken times, and the type.
	units, left := len(s.Units), len(q.zero)
	n := left + units + len(def.Params) + 1
	var rows [][]*big.Int
	for i := range units + q.unknowns {
		v := make([]int, n)
		for j, f := range q.zero {
			v[j] = f[i]
		}
		if i < units+len(def.Params) {
			v[left+i] = 1
		}
		v[n-1] = result[i]
		rows = append(rows, wholes(v))
	}
	t := api.Scheme{Params: len(def.Params)}
	for _, row := range normalForm(rows, n) {
		switch c := pivot(row); {
		case c < left:
		case c >= left+units:
			t.Rows = append(t.Rows, ints(row[left+units:]))
		case row[c].Cmp(whole(1)) != 0 || c != left+len(t.Fixed):
			return api.Scheme{}, api.ErrUnit
		default:
			t.Fixed = append(t.Fixed, ints(row[left+units:]))
		}
	}
	if len(t.Fixed) < units {
		return api.Scheme{}, api.ErrUnit
	}
	return t, api.OK
}

func ints(row []*big.Int) []int {
	var list []int
	for _, x := range row {
		if !x.IsInt64() {
			panic(x)
		}
		list = append(list, int(x.Int64()))
	}
	return list
}

func sameScheme(a, b api.Scheme) bool {
	return a.Params == b.Params && slices.EqualFunc(a.Rows, b.Rows, slices.Equal[[]int]) &&
		slices.EqualFunc(a.Fixed, b.Fixed, slices.Equal[[]int])
}

// solvable reports whether there are free choices with which the equations hold for these dimensions, for one unit.
func solvable(q *equality, result shape, unit int, dim []int) bool {
	units, params := len(q.source.Units), len(q.params)
	equations := append(slices.Clone(q.zero), result)
	right := make([]int, len(equations))
	for j, f := range equations {
		right[j] = -f[unit]
		for i := range params {
			right[j] -= f[units+i] * dim[i]
		}
	}
	right[len(right)-1] += dim[params]
	var columns [][]*big.Int
	for i := params; i < q.unknowns; i++ {
		v := make([]int, len(equations))
		for j, f := range equations {
			v[j] = f[units+i]
		}
		columns = append(columns, wholes(v))
	}
	return contains(normalForm(columns, len(equations)), wholes(right))
}

// A reckoning evaluates with numbers of any length.
type reckoning struct {
	source api.Source
	scales []*big.Rat
	steps  int
}

func exact(r api.Ratio) *big.Rat { return big.NewRat(int64(r.Num), int64(r.Den)) }

func exacts(list []api.Ratio) []*big.Rat {
	var out []*big.Rat
	for _, r := range list {
		out = append(out, exact(r))
	}
	return out
}

var greatest = whole(1 << 31)

func within(x *big.Rat) bool {
	return x.Num().CmpAbs(greatest) <= 0 && x.Denom().Cmp(greatest) <= 0
}

// refEval is what Eval must return for good arguments, and how many steps it takes.
func refEval(s api.Source, name string, args, scales []api.Ratio) (api.Ratio, int, api.Errno) {
	r := &reckoning{source: s, scales: exacts(scales)}
	x, err := r.call(name, exacts(args))
	if err != api.OK {
		return api.Ratio{}, r.steps, err
	}
	return api.Ratio{Num: int(x.Num().Int64()), Den: int(x.Denom().Int64())}, r.steps, api.OK
}

func (r *reckoning) call(name string, args []*big.Rat) (*big.Rat, api.Errno) {
	for _, d := range r.source.Defs {
		if d.Name != name {
			continue
		}
		env := map[string]*big.Rat{}
		for i, p := range d.Params {
			env[p] = args[i]
		}
		return r.of(d.Body, env)
	}
	panic(name)
}

func (r *reckoning) of(e api.Expr, env map[string]*big.Rat) (*big.Rat, api.Errno) {
	if r.steps++; r.steps > 100000 {
		return nil, api.ErrFuel
	}
	var parts []*big.Rat
	for i, part := range e.Parts {
		if e.Kind == 9 && i == 2 && parts[0].Cmp(parts[1]) >= 0 {
			continue
		}
		x, err := r.of(part, env)
		if err != api.OK || e.Kind == 9 && i >= 2 {
			return x, err
		}
		parts = append(parts, x)
	}
	x := new(big.Rat)
	switch e.Kind {
	case 0:
		x.SetInt64(int64(e.N))
		for u, name := range r.source.Units {
			n := 0
			for _, unit := range e.Units {
				if unit.Name == name {
					n += unit.Exp
				}
			}
			if n < -30 || n > 30 {
				return nil, api.ErrRange
			}
			x.Mul(x, raised(r.scales[u], n))
		}
	case 1:
		x = env[e.Name]
	case 2:
		return r.call(e.Name, parts)
	case 3:
		x.Add(parts[0], parts[1])
	case 4:
		x.Sub(parts[0], parts[1])
	case 5:
		x.Mul(parts[0], parts[1])
	case 6:
		if parts[1].Sign() == 0 {
			return nil, api.ErrZero
		}
		x.Quo(parts[0], parts[1])
	case 7:
		if e.N < 0 && parts[0].Sign() == 0 {
			return nil, api.ErrZero
		}
		x = raised(parts[0], e.N)
	case 8:
		if parts[0].Sign() < 0 {
			return nil, api.ErrRoot
		}
		x.SetFrac(new(big.Int).Sqrt(parts[0].Num()), new(big.Int).Sqrt(parts[0].Denom()))
		if new(big.Rat).Mul(x, x).Cmp(parts[0]) != 0 {
			return nil, api.ErrRoot
		}
	}
	if !within(x) {
		return nil, api.ErrRange
	}
	return x, api.OK
}

// raised is x to the power n.
func raised(x *big.Rat, n int) *big.Rat {
	y := big.NewRat(1, 1)
	if n < 0 {
		x, n = new(big.Rat).Inv(x), -n
	}
	for range n {
		y = new(big.Rat).Mul(y, x)
	}
	return y
}
