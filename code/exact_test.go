package code_test

import (
	"math/big"
	"slices"

	"tinplate/api"
)

// What the tests compute on their own, each thing in another way than the package: code by patching jumps, the stack by
// following all ways, types by elimination with numbers of any length over stacks that are found backwards, values with
// a list of frames and such numbers.

// A writer writes the code of a definition.
type writer struct {
	source api.Source
	params []string
	ops    []api.Op
}

// put appends an instruction and returns its index.
func (w *writer) put(what, n int) int {
	w.ops = append(w.ops, api.Op{What: what, N: n})
	return len(w.ops) - 1
}

// land makes an instruction skip all up to the place where the next one will be.
func (w *writer) land(i int) { w.ops[i].N = len(w.ops) - i - 1 }

func (w *writer) write(e api.Expr) {
	for _, part := range e.Parts[:min(2, len(e.Parts))] {
		w.write(part)
	}
	switch e.Kind {
	case api.ExprNum:
		i := w.put(0, e.N)
		for _, name := range w.source.Units {
			sum := 0
			for _, u := range e.Units {
				if u.Name == name {
					sum += u.Exp
				}
			}
			w.ops[i].Units = append(w.ops[i].Units, sum)
		}
	case api.ExprVar:
		w.put(1, slices.Index(w.params, e.Name))
	case api.ExprCall:
		for _, part := range e.Parts[min(2, len(e.Parts)):] {
			w.write(part)
		}
		for i, d := range w.source.Defs {
			if d.Name == e.Name {
				w.put(10, i)
			}
		}
	case api.ExprIf:
		less := w.put(8, 0)
		w.write(e.Parts[2])
		jump := w.put(9, 0)
		w.land(less)
		w.write(e.Parts[3])
		w.land(jump)
	default:
		w.put(map[int]int{3: 2, 4: 3, 5: 4, 6: 5, 7: 6, 8: 7}[e.Kind], e.N)
	}
}

// refCompile is what Compile must return for a valid source.
func refCompile(s api.Source) (api.Code, api.Errno) {
	c := api.Code{Units: len(s.Units)}
	for _, d := range s.Defs {
		w := writer{source: s, params: d.Params}
		w.write(d.Body)
		w.put(11, 0)
		if len(w.ops) > 200 {
			return api.Code{}, api.ErrLimit
		}
		for _, op := range w.ops {
			for _, x := range op.Units {
				if x < -30 || x > 30 {
					return api.Code{}, api.ErrLimit
				}
			}
		}
		c.Procs = append(c.Procs, api.Proc{Params: len(d.Params), Ops: w.ops})
	}
	return c, api.OK
}

func sameOp(a, b api.Op) bool {
	return a.What == b.What && a.N == b.N && slices.Equal(a.Units, b.Units)
}

func sameProc(a, b api.Proc) bool {
	return a.Params == b.Params && slices.EqualFunc(a.Ops, b.Ops, sameOp)
}

func sameCode(a, b api.Code) bool {
	return a.Units == b.Units && slices.EqualFunc(a.Procs, b.Procs, sameProc)
}

// refForm is what Form must return.
func refForm(c api.Code) (int, api.Errno) {
	if c.Units < 0 || c.Units > 4 {
		return 0, api.ErrArg
	}
	if len(c.Procs) > 12 {
		return 0, api.ErrLimit
	}
	for i, p := range c.Procs {
		if p.Params < 0 || p.Params > 3 {
			return i, api.ErrArg
		}
		if len(p.Ops) > 200 {
			return i, api.ErrLimit
		}
		for at := range p.Ops {
			if !refOp(c, i, at) {
				return i, api.ErrForm
			}
		}
		if !refStack(c, p) {
			return i, api.ErrStack
		}
	}
	return 0, api.OK
}

func refOp(c api.Code, proc, at int) bool {
	p := c.Procs[proc]
	op := p.Ops[at]
	lows := []int{0, 0, op.N, op.N, op.N, op.N, -3, op.N, 0, 0, 0, op.N}
	highs := []int{9999999, p.Params - 1, op.N, op.N, op.N, op.N, 3, op.N, len(p.Ops) - 2 - at, len(p.Ops) - 2 - at, proc - 1, op.N}
	if op.What < 0 || op.What > 11 || op.N < lows[op.What] || op.N > highs[op.What] {
		return false
	}
	if op.What != 0 {
		return true
	}
	good := len(op.Units) == c.Units
	for _, x := range op.Units {
		good = good && -30 <= x && x <= 30
	}
	return good
}

// effect is how many values an instruction needs and leaves in their place.
func effect(c api.Code, op api.Op) (int, int) {
	needs := []int{0, 0, 2, 2, 2, 2, 1, 1, 2, 0, 0, 1}[op.What]
	if op.What == 10 {
		needs = c.Procs[op.N].Params
	}
	return needs, []int{1, 1, 1, 1, 1, 1, 1, 1, 0, 0, 1, 0}[op.What]
}

// leads reports whether execution may go on with the instruction b after a.
func leads(ops []api.Op, a, b int) bool {
	falls := ops[a].What != 9 && ops[a].What != 11
	skips := ops[a].What == 8 || ops[a].What == 9
	return falls && b == a+1 || skips && b == a+1+ops[a].N
}

// refStack follows all ways through a procedure with good instructions.
func refStack(c api.Code, p api.Proc) bool {
	type state struct{ at, depth int }
	seen := map[state]bool{}
	todo := []state{{0, 0}}
	for len(todo) > 0 {
		x := todo[len(todo)-1]
		todo = todo[:len(todo)-1]
		if seen[x] {
			continue
		}
		seen[x] = true
		if x.at == len(p.Ops) {
			return false
		}
		needs, leaves := effect(c, p.Ops[x.at])
		depth := x.depth - needs + leaves
		if x.depth < needs || depth > 40 || p.Ops[x.at].What == 11 && x.depth != 1 {
			return false
		}
		for b := range len(p.Ops) + 1 {
			if leads(p.Ops, x.at, b) {
				todo = append(todo, state{b, depth})
			}
		}
	}
	depths := make([]int, len(p.Ops))
	for x := range seen {
		depths[x.at]++
	}
	for _, n := range depths {
		if n != 1 {
			return false
		}
	}
	return true
}

// Numbers of any length.

func whole(x int) *big.Int { return big.NewInt(int64(x)) }

func wholes(row []int) []*big.Int {
	var list []*big.Int
	for _, x := range row {
		list = append(list, whole(x))
	}
	return list
}

func ints(row []*big.Int) []int {
	var list []int
	for _, x := range row {
		if !x.IsInt64() {
			panic(x)
		}
		list = append(list, int(x.Int64()))
	}
	return list
}

// subtract changes v to v - q*w.
func subtract(v, w []*big.Int, q *big.Int) {
	for j := range v {
		v[j] = new(big.Int).Sub(v[j], new(big.Int).Mul(q, w[j]))
	}
}

func pivot(v []*big.Int) int {
	return slices.IndexFunc(v, func(x *big.Int) bool { return x.Sign() != 0 })
}

// normalForm is the Hermite normal form by plain elimination. It changes the rows.
func normalForm(rows [][]*big.Int, n int) [][]*big.Int {
	var done [][]*big.Int
	for c := range n {
		var head []*big.Int
		var rest [][]*big.Int
		for _, v := range rows {
			if head == nil && v[c].Sign() != 0 {
				head = v
				continue
			}
			for head != nil && v[c].Sign() != 0 {
				subtract(head, v, new(big.Int).Quo(head[c], v[c]))
				head, v = v, head
			}
			rest = append(rest, v)
		}
		rows = rest
		if head == nil {
			continue
		}
		if head[c].Sign() < 0 {
			subtract(head, head, whole(2))
		}
		for _, v := range done {
			subtract(v, head, new(big.Int).Div(v[c], head[c]))
		}
		done = append(done, head)
	}
	return done
}

// A shape is a form: its numbers are those for the constants of each unit, and then those for each unknown, which may
// be more and more.
type shape map[int]int

func sum(a shape, k int, b shape) shape {
	c := shape{}
	for i, x := range a {
		c[i] += x
	}
	for i, x := range b {
		c[i] += k * x
	}
	return c
}

// An equality is the system of a procedure: its unknowns, all its forms, and its equations, which are 0.
type equality struct {
	code     api.Code
	types    []api.Scheme
	proc     api.Proc
	unknowns int
	forms    []shape
	zero     []shape
	made     map[int][]shape // the stacks after instructions
	results  []shape
}

func (q *equality) choice() shape {
	q.unknowns++
	return shape{q.code.Units + q.unknowns - 1: 1}
}

func (q *equality) same(a, b shape) { q.zero = append(q.zero, sum(a, -1, b)) }

// before is the stack before an instruction. It looks for the ways there, and asks where these come from.
func (q *equality) before(at int) []shape {
	var ways [][]shape
	for a := range at {
		if leads(q.proc.Ops, a, at) {
			ways = append(ways, q.after(a))
		}
	}
	if at == 0 {
		return nil
	}
	for k := range ways[0] {
		for i := 0; i+1 < len(ways); i++ {
			q.same(ways[i][k], ways[i+1][k])
		}
	}
	return ways[0]
}

// after is the stack after an instruction.
func (q *equality) after(at int) []shape {
	if s, ok := q.made[at]; ok {
		return s
	}
	s := slices.Clone(q.before(at))
	needs, leaves := effect(q.code, q.proc.Ops[at])
	top := s[len(s)-needs:]
	s = slices.Clone(s[:len(s)-needs])
	f := q.of(q.proc.Ops[at], top)
	if leaves == 1 {
		s = append(s, f)
	}
	q.made[at] = s
	return s
}

func (q *equality) of(op api.Op, top []shape) shape {
	f := q.find(op, top)
	q.forms = append(q.forms, f)
	return f
}

func (q *equality) find(op api.Op, top []shape) shape {
	switch op.What {
	case 0:
		f := shape{}
		zero := op.N == 0
		for u, x := range op.Units {
			f[u] = x
			zero = zero && x == 0
		}
		if zero {
			return q.choice()
		}
		return f
	case 1:
		return shape{q.code.Units + op.N: 1}
	case 2, 3, 8:
		q.same(top[0], top[1])
		return top[0]
	case 4:
		return sum(top[0], 1, top[1])
	case 5:
		return sum(top[0], -1, top[1])
	case 6:
		return sum(shape{}, op.N, top[0])
	case 7:
		c := q.choice()
		q.same(top[0], sum(c, 1, c))
		return c
	case 10:
		return q.called(q.types[op.N], top)
	case 11:
		q.results = append(q.results, top[0])
	}
	return shape{}
}

func (q *equality) called(t api.Scheme, args []shape) shape {
	var list []shape
	for i := range t.Params + 1 {
		f := shape{}
		for u, fixed := range t.Fixed {
			f[u] = fixed[i]
		}
		list = append(list, f)
	}
	for _, row := range t.Rows {
		c := q.choice()
		for i, x := range row {
			list[i] = sum(list[i], x, c)
		}
	}
	for i, arg := range args {
		q.same(arg, list[i])
	}
	return list[t.Params]
}

// system is the system of a procedure, and the form of its result.
func system(c api.Code, types []api.Scheme, p api.Proc) (*equality, shape) {
	q := &equality{code: c, types: types, proc: p, unknowns: p.Params, made: map[int][]shape{}}
	for at := range p.Ops {
		q.after(at)
	}
	for i := range q.results {
		q.same(q.results[0], q.results[i])
	}
	return q, q.results[0]
}

// refVerify is what Verify must return for well-formed code.
func refVerify(c api.Code) ([]api.Scheme, int, api.Errno) {
	var list []api.Scheme
	for i, p := range c.Procs {
		t, err := refType(c, list, p)
		if err != api.OK {
			return nil, i, err
		}
		list = append(list, t)
	}
	return list, 0, api.OK
}

func refType(c api.Code, types []api.Scheme, p api.Proc) (api.Scheme, api.Errno) {
	q, result := system(c, types, p)
	if q.unknowns > 6 {
		return api.Scheme{}, api.ErrLimit
	}
	for _, f := range slices.Concat(q.forms, q.zero) {
		for _, x := range f {
			if x < -30 || x > 30 {
				return api.Scheme{}, api.ErrRange
			}
		}
	}
	// What is left of the equations comes first; then what each unit's constants were taken times, and the type.
	units, left := c.Units, len(q.zero)
	n := left + units + p.Params + 1
	var rows [][]*big.Int
	for i := range units + q.unknowns {
		v := make([]int, n)
		for j, f := range q.zero {
			v[j] = f[i]
		}
		if i < units+p.Params {
			v[left+i] = 1
		}
		v[n-1] = result[i]
		rows = append(rows, wholes(v))
	}
	t := api.Scheme{Params: p.Params}
	for _, row := range normalForm(rows, n) {
		switch c := pivot(row); {
		case c < left:
		case c >= left+units:
			t.Rows = append(t.Rows, ints(row[left+units:]))
		case row[c].Cmp(whole(1)) != 0 || c != left+len(t.Fixed):
			return api.Scheme{}, api.ErrUnit
		default:
			t.Fixed = append(t.Fixed, ints(row[left+units:]))
		}
	}
	if len(t.Fixed) < units {
		return api.Scheme{}, api.ErrUnit
	}
	return t, api.OK
}

func sameScheme(a, b api.Scheme) bool {
	return a.Params == b.Params && slices.EqualFunc(a.Rows, b.Rows, slices.Equal[[]int]) &&
		slices.EqualFunc(a.Fixed, b.Fixed, slices.Equal[[]int])
}

func exact(r api.Ratio) *big.Rat { return big.NewRat(int64(r.Num), int64(r.Den)) }

func exacts(list []api.Ratio) []*big.Rat {
	var out []*big.Rat
	for _, r := range list {
		out = append(out, exact(r))
	}
	return out
}

var greatest = whole(1 << 31)

func within(x *big.Rat) bool {
	return x.Num().CmpAbs(greatest) <= 0 && x.Denom().Cmp(greatest) <= 0
}

// A frame is a procedure that is being executed.
type frame struct {
	ops         []api.Op
	at          int
	args, stack []*big.Rat
}

// refRun is what Run must return for good arguments. The int is the number of instructions with an error, too.
func refRun(c api.Code, proc int, args, scales []api.Ratio, fuel int) (api.Ratio, int, api.Errno) {
	frames := []*frame{{ops: c.Procs[proc].Ops, args: exacts(args)}}
	sizes := exacts(scales)
	for n := 0; ; n++ {
		if n == fuel {
			return api.Ratio{}, n, api.ErrFuel
		}
		f := frames[len(frames)-1]
		op := f.ops[f.at]
		f.at++
		needs, _ := effect(c, op)
		rest := len(f.stack) - needs
		top := slices.Clone(f.stack[rest:])
		f.stack = f.stack[:rest]
		switch op.What {
		case 8:
			if top[0].Cmp(top[1]) >= 0 {
				f.at += op.N
			}
		case 9:
			f.at += op.N
		case 10:
			frames = append(frames, &frame{ops: c.Procs[op.N].Ops, args: top})
		case 11:
			frames = frames[:len(frames)-1]
			if len(frames) == 0 {
				return api.Ratio{Num: int(top[0].Num().Int64()), Den: int(top[0].Denom().Int64())}, n + 1, api.OK
			}
			caller := frames[len(frames)-1]
			caller.stack = append(caller.stack, top[0])
		default:
			x, err := refValue(op, f.args, top, sizes)
			if err == api.OK && !within(x) {
				err = api.ErrRange
			}
			if err != api.OK {
				return api.Ratio{}, n + 1, err
			}
			f.stack = append(f.stack, x)
		}
	}
}

func refValue(op api.Op, args, top, sizes []*big.Rat) (*big.Rat, api.Errno) {
	x := new(big.Rat)
	switch op.What {
	case 0:
		x.SetInt64(int64(op.N))
		for u, size := range sizes {
			x.Mul(x, raised(size, op.Units[u]))
		}
	case 1:
		return args[op.N], api.OK
	case 2:
		x.Add(top[0], top[1])
	case 3:
		x.Sub(top[0], top[1])
	case 4:
		x.Mul(top[0], top[1])
	case 5:
		if top[1].Sign() == 0 {
			return nil, api.ErrZero
		}
		x.Quo(top[0], top[1])
	case 6:
		if op.N < 0 && top[0].Sign() == 0 {
			return nil, api.ErrZero
		}
		x = raised(top[0], op.N)
	case 7:
		if top[0].Sign() < 0 {
			return nil, api.ErrRoot
		}
		x.SetFrac(new(big.Int).Sqrt(top[0].Num()), new(big.Int).Sqrt(top[0].Denom()))
		if new(big.Rat).Mul(x, x).Cmp(top[0]) != 0 {
			return nil, api.ErrRoot
		}
	}
	return x, api.OK
}

// raised is x to the power n.
func raised(x *big.Rat, n int) *big.Rat {
	y := big.NewRat(1, 1)
	if n < 0 {
		x, n = new(big.Rat).Inv(x), -n
	}
	for range n {
		y = new(big.Rat).Mul(y, x)
	}
	return y
}
