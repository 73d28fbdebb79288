package works_test

import (
	"fmt"
	"maps"
	"math"
	"math/big"
	"regexp"
	"slices"
	"strings"

	"tinplate/api"
	"tinplate/blank"
	"tinplate/code"
	"tinplate/convex"
	"tinplate/lang"
	"tinplate/shop"
)

// What the tests compute on their own, each thing in another way than the package: words by patterns of text, the works
// by changing lots in place, and what is traced by closures of relations and by searches through all small sets.

// A model is works as the chapter has them, word for word.
type model struct {
	lots     []api.Lot
	sizes    map[int][2]int
	patterns map[string][]api.Vec
	source   []string
	jobs     [][]api.Task
	book     []string
	cuts     []leftover
}

// A leftover is what was made of a sheet.
type leftover struct{ sheet, blank, count int }

func newModel() *model { return &model{sizes: map[int][2]int{}, patterns: map[string][]api.Vec{}} }

func (m *model) copy() *model {
	return &model{
		lots:     slices.Clone(m.lots),
		sizes:    maps.Clone(m.sizes),
		patterns: maps.Clone(m.patterns),
		source:   slices.Clone(m.source),
		jobs:     slices.Clone(m.jobs),
		book:     slices.Clone(m.book),
		cuts:     slices.Clone(m.cuts),
	}
}

var (
	printable   = regexp.MustCompile(`^[ -~]*$`)
	namePattern = regexp.MustCompile(`^[a-z][a-z0-9]{0,7}$`)
	intPattern  = regexp.MustCompile(`^(0|-?[1-9][0-9]*)$`)
	overPattern = regexp.MustCompile(`^(0|-?[1-9][0-9]*)/[1-9][0-9]*$`)
)

// usages tell of each command the kinds of its parameters (Number, Alphabetic name, Ratio, Text): a pattern of them all,
// and that of which it repeats the last part.
var usages = map[string]struct{ all, long string }{
	"sheet":      {"NN", "NN"},
	"pattern":    {"A(NN){3,12}", "A" + strings.Repeat("NN", 12)},
	"cut":        {"NA", "NA"},
	"form":       {"N", "N"},
	"part":       {"NN", "NN"},
	"join":       {"N{2,8}", "NNNNNNNN"},
	"hold":       {"N", "N"},
	"free":       {"N", "N"},
	"unit":       {"A", "A"},
	"recipe":     {"T{1,40}", strings.Repeat("T", 40)},
	"job":        {"(NN){1,4}", "NNNNNNNN"},
	"ship":       {"N", "N"},
	"value":      {"AR{0,3}", "ARRR"},
	"plan":       {"", ""},
	"late":       {"N", "N"},
	"lot":        {"N", "N"},
	"before":     {"N", "N"},
	"after":      {"N", "N"},
	"dominators": {"N", "N"},
	"suspects":   {"NN{1,12}", strings.Repeat("N", 13)},
	"stop":       {"NN{2,12}", strings.Repeat("N", 13)},
	"audit":      {"", ""},
}

// kindsOf is the kinds of so many parameters of a command: false if it takes another number of them.
func kindsOf(name string, count int) (string, bool) {
	usage, ok := usages[name]
	if !ok || count > len(usage.long) {
		return "", false
	}
	kinds := usage.long[:count]
	return kinds, regexp.MustCompile("^" + usage.all + "$").MatchString(kinds)
}

// isKind tells whether a word is of a kind.
func isKind(kind byte, word string) bool {
	switch kind {
	case 'N':
		return isNumber(word, 50)
	case 'A':
		keywords := []string{"unit", "let", "if", "then", "else", "root"}
		return namePattern.MatchString(word) && !slices.Contains(keywords, word)
	case 'R':
		if !overPattern.MatchString(word) {
			return isNumber(word, 31)
		}
		r, _ := new(big.Rat).SetString(word)
		over, under, _ := strings.Cut(word, "/")
		return isNumber(over, 31) && isNumber(under, 31) && !r.IsInt() && r.String() == word
	}
	return true
}

// isNumber tells whether a word is a number of at most 2 to the power bits.
func isNumber(word string, bits uint) bool {
	if !intPattern.MatchString(word) {
		return false
	}
	n, _ := new(big.Int).SetString(word, 10)
	return n.CmpAbs(new(big.Int).Lsh(big.NewInt(1), bits)) <= 0
}

// exec is the reply to a line.
func (m *model) exec(line string) string {
	words := slices.DeleteFunc(strings.Split(line, " "), func(word string) bool { return word == "" })
	if len(words) == 0 {
		return ""
	}
	if len(line) > 300 || !printable.MatchString(line) {
		return "? line"
	}
	return m.reply(words)
}

func (m *model) reply(words []string) string {
	name, rest := words[0], words[1:]
	if name == "if" && len(rest) > 0 {
		return m.copy().reply(rest)
	}
	kinds, ok := kindsOf(name, len(rest))
	if !ok {
		return "? line"
	}
	for i, word := range rest {
		if !isKind(kinds[i], word) {
			return fmt.Sprint("? word ", i+1)
		}
	}
	next := m.copy()
	reply, err := next.try(name, rest)
	if changes[name] && err == api.OK {
		if len(m.book) == 2000 {
			err = api.ErrFull
		} else {
			next.book = append(next.book, strings.Join(words, " "))
			*m = *next
		}
	}
	if err != api.OK {
		return fmt.Sprint("! ", int(err))
	}
	return reply
}

var changes = map[string]bool{"sheet": true, "pattern": true, "cut": true, "form": true, "part": true, "join": true,
	"hold": true, "free": true, "unit": true, "recipe": true, "job": true, "ship": true}

// need refuses a command if something does not hold.
func need(holds bool, err api.Errno) {
	if !holds {
		panic(err)
	}
}

// must gives up if there is an error.
func must[T any](value T, err api.Errno) T {
	need(err == api.OK, err)
	return value
}

// try does what a command says, and leaves anything if it is refused.
func (m *model) try(name string, words []string) (reply string, err api.Errno) {
	defer func() {
		if e, ok := recover().(api.Errno); ok {
			reply, err = "", e
		}
	}()
	var n []int
	for _, word := range words {
		var x int
		fmt.Sscan(word, &x)
		n = append(n, x)
	}
	switch name {
	case "unit", "recipe", "value":
		return m.recipes(name, words), api.OK
	case "job", "plan", "late":
		return m.shop(name, n), api.OK
	case "lot", "before", "after", "dominators", "suspects", "stop", "audit":
		return m.look(name, n), api.OK
	case "sheet", "pattern", "cut":
		return m.sheets(name, words, n), api.OK
	}
	return m.pieces(name, n), api.OK
}

func (m *model) sheets(name string, words []string, n []int) string {
	switch name {
	case "sheet":
		need(n[0] >= 1 && n[0] <= 100 && n[1] >= 1 && n[1] <= 100, api.ErrArg)
		reply := m.add(api.LotSheet, 1)
		m.sizes[len(m.lots)] = [2]int{n[0], n[1]}
		return reply
	case "pattern":
		need(m.patterns[words[0]] == nil, api.ErrExists)
		var points []api.Vec
		for i := 1; i < len(n); i += 2 {
			points = append(points, api.Vec{X: n[i], Y: n[i+1]})
		}
		p := must(convex.Hull(points))
		for _, v := range p {
			need(v.X >= 0 && v.X <= 12 && v.Y >= 0 && v.Y <= 12, api.ErrArg)
		}
		need(len(m.patterns) < 8, api.ErrFull)
		m.patterns[words[0]] = p
		g := must(blank.Densest(p))
		return fmt.Sprint(g.A * g.D)
	}
	m.free(n[0])
	need(m.lots[n[0]-1].Kind == api.LotSheet, api.ErrArg)
	p := m.patterns[words[1]]
	need(p != nil, api.ErrNone)
	w, h := m.sizes[n[0]][0], m.sizes[n[0]][1]
	count := len(must(blank.Lay(p, must(blank.Densest(p)), w, h)))
	need(count > 0, api.ErrPlan)
	m.cuts = append(m.cuts, leftover{w * h, must(convex.Area(p)), count})
	m.lots[n[0]-1].State = api.LotGone
	return m.add(api.LotBlank, count, n[0]) + fmt.Sprint(" ", count)
}

// add adds a lot.
func (m *model) add(kind, count int, from ...int) string {
	need(len(m.lots) < 60, api.ErrFull)
	from = slices.Sorted(slices.Values(from))
	m.lots = append(m.lots, api.Lot{No: len(m.lots) + 1, Kind: kind, Count: count, From: from})
	return fmt.Sprint("lot ", len(m.lots))
}

func (m *model) exists(no int) { need(no >= 1 && no <= len(m.lots), api.ErrNone) }

func (m *model) free(no int) {
	m.exists(no)
	need(m.lots[no-1].State == api.LotFree, api.ErrState)
}

func (m *model) pieces(name string, n []int) string {
	m.exists(n[0])
	l := &m.lots[n[0]-1]
	if name == "free" {
		need(l.State == api.LotHeld, api.ErrState)
		l.State = api.LotFree
		return "ok"
	}
	m.free(n[0])
	switch name {
	case "form":
		need(l.Kind == api.LotBlank, api.ErrArg)
		l.State = api.LotGone
		return m.add(api.LotCan, l.Count, n[0])
	case "part":
		need(l.Kind != api.LotSheet && n[1] >= 1 && n[1] <= l.Count-1, api.ErrArg)
		l.Count -= n[1]
		return m.add(l.Kind, n[1], n[0])
	case "join":
		return m.join(n)
	case "hold":
		l.State = api.LotHeld
	case "ship":
		need(l.Kind == api.LotCan, api.ErrArg)
		l.State = api.LotShipped
	}
	return "ok"
}

func (m *model) join(n []int) string {
	for _, no := range n {
		m.free(no)
	}
	all, named := 0, map[int]bool{}
	for _, no := range n {
		l := &m.lots[no-1]
		need(!named[no], api.ErrExists)
		need(l.Kind != api.LotSheet && l.Kind == m.lots[n[0]-1].Kind, api.ErrArg)
		named[no], all = true, all+l.Count
	}
	for _, no := range n {
		m.lots[no-1].State = api.LotGone
	}
	return m.add(m.lots[n[0]-1].Kind, all, n...)
}

func (m *model) recipes(name string, words []string) string {
	if name == "value" {
		return m.value(words)
	}
	line := map[string]string{"unit": "unit ", "recipe": "let "}[name] + strings.Join(words, " ")
	m.source = append(m.source, line)
	s, _, err := lang.Parse(strings.Join(m.source, "\n"))
	need(err == api.OK, err)
	types, _, err := lang.Infer(s)
	need(err == api.OK, err)
	must(code.Compile(s))
	if name == "unit" {
		return "ok"
	}
	return typeText(types[len(s.Defs)-1])
}

func typeText(t api.Scheme) string {
	plain := func(list []int) string { return strings.ReplaceAll(strings.Trim(fmt.Sprint(list), "[]"), " ", ",") }
	text := "-"
	for i, row := range t.Rows {
		text = map[bool]string{true: "", false: text + ";"}[i == 0] + plain(row)
	}
	for _, fixed := range t.Fixed {
		text += " " + plain(fixed)
	}
	return text
}

// value evaluates the recipe itself, not its code: the fuel of both is not the same.
func (m *model) value(words []string) string {
	s, _, _ := lang.Parse(strings.Join(m.source, "\n"))
	var args []api.Ratio
	for _, word := range words[1:] {
		r, _ := new(big.Rat).SetString(word)
		args = append(args, api.Ratio{Num: int(r.Num().Int64()), Den: int(r.Denom().Int64())})
	}
	i := slices.IndexFunc(s.Defs, func(d api.Def) bool { return d.Name == words[0] })
	need(i >= 0, api.ErrNone)
	need(len(s.Defs[i].Params) == len(args), api.ErrArg)
	r := must(lang.Eval(s, words[0], args, slices.Repeat([]api.Ratio{{Num: 1, Den: 1}}, len(s.Units))))
	return big.NewRat(int64(r.Num), int64(r.Den)).RatString()
}

func (m *model) shop(name string, n []int) string {
	switch name {
	case "job":
		var tasks []api.Task
		for i := 0; i < len(n); i += 2 {
			tasks = append(tasks, api.Task{Machine: n[i], Time: n[i+1]})
		}
		m.jobs = append(m.jobs, tasks)
		_, _, err := shop.Heads(m.jobs)
		need(err == api.OK, err)
		return fmt.Sprint(len(m.jobs) - 1)
	case "late":
		need(n[0] >= 0 && n[0] <= 10000, api.ErrArg)
		if proof, err := shop.Prove(m.jobs, n[0]); err == api.OK && must(shop.Check(m.jobs, n[0], proof)) {
			return "no"
		}
	}
	starts, makespan, _ := shop.Solve(m.jobs)
	if name == "late" {
		return fmt.Sprint("yes ", makespan)
	}
	return plainText(append([]int{makespan}, starts...))
}

// plainText is numbers with blanks between.
func plainText(list []int) string { return strings.Trim(fmt.Sprint(list), "[]") }

func (m *model) look(name string, n []int) string {
	if name == "audit" {
		a := m.audit()
		word := map[bool]string{true: "good", false: "bad"}[a.Good]
		return fmt.Sprint(word, " ", plainText([]int{a.Commands, a.Lots, a.Sheets, a.Pieces, a.Scrap, a.Shipped}))
	}
	if name == "suspects" || name == "stop" {
		return m.split(name, n[0], n[1:])
	}
	m.exists(n[0])
	l := m.lots[n[0]-1]
	switch name {
	case "before":
		return plainText(m.before(n[0]))
	case "after":
		return plainText(m.after(n[0]))
	case "dominators":
		return plainText(m.dominators(n[0]))
	}
	return plainText(append([]int{l.Kind, l.Count, l.State}, l.From...))
}

func (m *model) split(name string, at int, lots []int) string {
	need(at >= 1 && at <= map[string]int{"suspects": len(lots), "stop": len(lots) - 1}[name], api.ErrArg)
	for _, no := range lots {
		m.exists(no)
	}
	if name == "suspects" {
		return plainText(m.suspects(lots[:at], lots[at:]))
	}
	return plainText(m.stop(lots[:at], lots[at:]))
}

func (m *model) audit() api.Audit {
	a := api.Audit{Commands: len(m.book), Lots: len(m.lots), Good: true}
	for _, l := range m.lots {
		a.Sheets += map[bool]int{true: 1}[l.Kind == api.LotSheet]
		a.Pieces += map[bool]int{true: l.Count}[l.Kind != api.LotSheet && l.State != api.LotGone]
		a.Shipped += map[bool]int{true: l.Count}[l.State == api.LotShipped]
	}
	for _, c := range m.cuts {
		a.Scrap += int(math.Floor(float64(c.sheet) - float64(c.blank*c.count)/2))
	}
	return a
}

// A relation tells of any two lots whether it holds.
type relation [61][61]bool

// comes is the relation that a lot comes from another one: closed under all lots between.
func (m *model) comes() *relation {
	var r relation
	for _, l := range m.lots {
		for _, from := range l.From {
			r[l.No][from] = true
		}
	}
	for between := range r {
		for a := range r {
			for b := range r {
				r[a][b] = r[a][b] || r[a][between] && r[between][b]
			}
		}
	}
	return &r
}

// numbers is the numbers of the lots for which something holds.
func (m *model) numbers(holds func(no int) bool) []int {
	var list []int
	for no := 1; no <= len(m.lots); no++ {
		if holds(no) {
			list = append(list, no)
		}
	}
	return list
}

func (m *model) before(of int) []int {
	r := m.comes()
	return m.numbers(func(no int) bool { return r[of][no] })
}

func (m *model) after(of int) []int {
	r := m.comes()
	return m.numbers(func(no int) bool { return r[no][of] })
}

func (m *model) suspects(bad, good []int) []int {
	r := m.comes()
	return m.numbers(func(no int) bool {
		isIn := func(lot int) bool { return lot == no || r[lot][no] }
		isNotIn := func(lot int) bool { return !isIn(lot) }
		return !slices.ContainsFunc(bad, isNotIn) && !slices.ContainsFunc(good, isIn)
	})
}

// dominators is the lots without which no way leads to a lot.
func (m *model) dominators(of int) []int {
	roots := m.numbers(func(no int) bool { return len(m.lots[no-1].From) == 0 })
	return m.numbers(func(no int) bool { return !m.reach(roots, []int{no})[of] })
}

// reach is the lots that lists from lots reach without other lots.
func (m *model) reach(from, without []int) map[int]bool {
	reached := map[int]bool{}
	for _, l := range m.lots {
		isReached := func(no int) bool { return reached[no] }
		if !slices.Contains(without, l.No) && (slices.Contains(from, l.No) || slices.ContainsFunc(l.From, isReached)) {
			reached[l.No] = true
		}
	}
	return reached
}

// stop is the best of all smallest sets of lots that stop everything.
func (m *model) stop(from, to []int) []int {
	for size := 0; ; size++ {
		found := map[string][]int{}
		m.stops(from, to, nil, size, found)
		if len(found) > 0 {
			return m.nearest(from, slices.Collect(maps.Values(found)))
		}
	}
}

// stops finds all sets of that size more that stop everything: one lot of each list must be in such a set.
func (m *model) stops(from, to, without []int, size int, found map[string][]int) {
	list := m.some(from, to, without)
	if list == nil {
		set := slices.Sorted(slices.Values(without))
		found[fmt.Sprint(set)] = set
		return
	}
	if size == 0 {
		return
	}
	for _, no := range list {
		m.stops(from, to, append(slices.Clone(without), no), size-1, found)
	}
}

// some is a list from lots to others without some lots, nil if there is none.
func (m *model) some(from, to, without []int) []int {
	reached := m.reach(from, without)
	for _, end := range to {
		if !reached[end] {
			continue
		}
		list := []int{end}
		for !slices.Contains(from, list[0]) {
			back := slices.IndexFunc(m.lots[list[0]-1].From, func(no int) bool { return reached[no] })
			list = slices.Insert(list, 0, m.lots[list[0]-1].From[back])
		}
		return list
	}
	return nil
}

// nearest is the set that leaves the fewest lots within reach, of which there must be only one.
func (m *model) nearest(from []int, sets [][]int) []int {
	count := func(set []int) int { return len(m.reach(from, set)) }
	slices.SortFunc(sets, func(a, b []int) int { return count(a) - count(b) })
	if len(sets) > 1 && count(sets[0]) == count(sets[1]) {
		panic("two sets are the nearest")
	}
	return sets[0]
}
