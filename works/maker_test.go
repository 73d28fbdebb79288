package works_test

import (
	"fmt"
	"math/rand"
	"slices"
	"strings"

	"tinplate/api"
	"tinplate/works"
)

// A mood says how often a random line is of each command.
type mood map[string]int

// Works that make lots, works with recipes, works with a shop, and works with some of all.
var (
	making = mood{"sheet": 6, "pattern": 8, "cut": 8, "form": 4, "part": 12, "join": 10, "hold": 2, "free": 3, "ship": 1}
	tests  = mood{"lot": 2, "before": 2, "after": 2, "dominators": 2, "suspects": 4, "stop": 5, "audit": 2}
	cooks  = mood{"unit": 2, "recipe": 8, "value": 20}
	plans  = mood{"job": 4, "plan": 4, "late": 8}
	all    = mood{"sheet": 8, "pattern": 3, "cut": 12, "form": 9, "part": 12, "join": 9, "hold": 5, "free": 4, "unit": 2,
		"recipe": 8, "job": 2, "ship": 3, "value": 6, "plan": 1, "late": 2, "lot": 3, "before": 3, "after": 3,
		"dominators": 3, "suspects": 4, "stop": 4, "audit": 2}
)

// A maker makes lines that make sense for the works as they are, most of the time.
type maker struct {
	*rand.Rand
	w     *works.Works
	wrong float64 // how often a word is not as it should be
}

func newMaker(seed int64, w *works.Works) *maker {
	return &maker{Rand: rand.New(rand.NewSource(seed)), w: w, wrong: 0.03}
}

func pick[T any](r *rand.Rand, list ...T) T { return list[r.Intn(len(list))] }

// command draws a command.
func (m *maker) command(from mood) string {
	var names []string
	for _, name := range commands {
		for range from[name] {
			names = append(names, name)
		}
	}
	return pick(m.Rand, names...)
}

var commands = []string{"sheet", "pattern", "cut", "form", "part", "join", "hold", "free", "unit", "recipe", "job", "ship",
	"value", "plan", "late", "lot", "before", "after", "dominators", "suspects", "stop", "audit"}

// line draws a line.
func (m *maker) line(from mood) string {
	words := m.words(m.command(from))
	if m.Float64() < m.wrong {
		words = m.spoiled(words)
	}
	if m.Intn(12) == 0 {
		words = append([]string{"if"}, words...)
	}
	if m.Intn(8) > 0 {
		return strings.Join(words, " ")
	}
	line := ""
	for _, word := range words {
		line += strings.Repeat(" ", 1+m.Intn(2)) + word
	}
	return line + strings.Repeat(" ", m.Intn(2))
}

// spoiled is words of which one is another one, missing, or there twice.
func (m *maker) spoiled(words []string) []string {
	at := m.Intn(len(words))
	switch m.Intn(3) {
	case 0:
		return slices.Delete(slices.Clone(words), at, at+1)
	case 1:
		return slices.Insert(slices.Clone(words), at, words[at])
	}
	odd := pick(m.Rand, "if", "x", "0", "-0", "01", "1/2", "2/4", "1125899906842624", "1125899906842625", "A", "\t", "root",
		"-2147483649", "=", "99999999999999999999", "lot")
	return slices.Concat(words[:at], []string{odd}, words[at+1:])
}

func (m *maker) words(name string) []string {
	return append([]string{name}, strings.Fields(m.parameters(name))...)
}

func (m *maker) parameters(name string) string {
	switch name {
	case "sheet":
		return fmt.Sprint(m.number(1, 12), " ", m.number(1, 12))
	case "pattern":
		return m.pattern()
	case "cut":
		return fmt.Sprint(m.lot(0, 0), " ", pick(m.Rand, patterns[:6]...))
	case "form":
		return m.lot(0, 1)
	case "part":
		return fmt.Sprint(m.lot(0, 1, 2), " ", m.number(1, 3))
	case "join":
		return m.lots(2+m.Intn(3), 0, pick(m.Rand, 1, 2))
	case "hold":
		return m.lot(0, 0, 1, 2)
	case "free":
		return m.lot(2, 0, 1, 2)
	case "ship":
		return m.lot(0, 2)
	case "unit":
		return pick(m.Rand, "m", "s", "kg", "k2", "k3")
	case "recipe":
		return m.recipe()
	case "value":
		return m.value()
	case "job":
		return m.tasks()
	case "late":
		return m.number(0, 100)
	case "suspects":
		count := 1 + m.Intn(3)
		return fmt.Sprint(m.number(1, count), " ", m.lots(count, -1))
	case "stop":
		return m.stop()
	case "plan", "audit":
		return ""
	}
	return m.lot(-1)
}

// number draws a number, which is just outside of its limits now and then.
func (m *maker) number(least, most int) string {
	if m.Float64() < m.wrong {
		return fmt.Sprint(pick(m.Rand, least-1, most+1, -least, 1<<50))
	}
	return fmt.Sprint(least + m.Intn(most-least+1))
}

// lot draws a lot in a state and of one of some kinds, if there is one; any lot for a state below 0.
func (m *maker) lot(state int, kinds ...int) string {
	var list []int
	last := 0
	for l, err := m.w.Lot(1); err == api.OK; l, err = m.w.Lot(last + 1) {
		last = l.No
		for _, kind := range kinds {
			if l.State == state && l.Kind == kind {
				list = append(list, l.No)
			}
		}
		if state < 0 {
			list = append(list, l.No)
		}
	}
	if len(list) == 0 || m.Float64() < m.wrong {
		return fmt.Sprint(m.Intn(last+4) - 1)
	}
	return fmt.Sprint(pick(m.Rand, list...))
}

func (m *maker) lots(count, state int, kinds ...int) string {
	var list []string
	for range count {
		list = append(list, m.lot(state, kinds...))
	}
	return strings.Join(list, " ")
}

// stop draws lots of which the first or the others are few, so that the smallest sets are found soon.
func (m *maker) stop() string {
	few, more := 1+m.Intn(3), 1+m.Intn(5)
	at := pick(m.Rand, few, more)
	if m.Float64() < m.wrong {
		at = pick(m.Rand, -1, 0, few+more)
	}
	return fmt.Sprint(at, " ", m.lots(few+more, -1))
}

var patterns = []string{"p", "q2", "r", "s", "t", "u", "v", "w", "x"}

func (m *maker) pattern() string {
	text := pick(m.Rand, append(patterns, patterns[:6]...)...)
	most := pick(m.Rand, 1, 2, 3, 3, 4, 5)
	for range 3 + m.Intn(3) {
		text += fmt.Sprint(" ", m.number(0, most), " ", m.number(0, most))
	}
	return text
}

// The names of recipes end with the number of their parameters.
var recipes = []string{"a0", "b1", "c1", "d1", "e2", "f2", "g3", "h0", "i1", "j2", "k1", "l2", "m3", "n0"}

func (m *maker) recipe() string {
	name := pick(m.Rand, recipes...)
	params := []string{"x", "y", "z"}[:name[1]-'0']
	head := name
	if len(params) > 0 {
		head += "(" + strings.Join(params, ", ") + ")"
	}
	return head + " = " + m.expr(params, 1+m.Intn(3))
}

func (m *maker) expr(params []string, depth int) string {
	kind := m.Intn(8)
	if depth == 0 || kind == 0 {
		leaf := pick(m.Rand, "0", "1", "2", "4", "3", "2[m]", "5[m s^-2]", "9[kg]", "1[m^3]")
		return pick(m.Rand, slices.Concat(params, params, []string{leaf})...)
	}
	part := func() string { return m.expr(params, depth-1) }
	switch kind {
	case 1:
		return "root(" + part() + ")"
	case 2:
		return "(" + part() + ")^" + fmt.Sprint(m.Intn(5)-1)
	case 3:
		return "if " + part() + "-1 < " + part() + " then " + part() + " else " + part()
	case 4, 5:
		name := pick(m.Rand, recipes...)
		args := strings.Repeat(", "+part(), int(name[1]-'0'))
		if args == "" {
			return name
		}
		return name + "(" + args[2:] + ")"
	}
	return "(" + part() + pick(m.Rand, "+", "-", "*", "*", "/") + part() + ")"
}

func (m *maker) value() string {
	name := pick(m.Rand, recipes...)
	count := int(name[1] - '0')
	if m.Float64() < m.wrong {
		count = m.Intn(4)
	}
	for range count {
		name += " " + pick(m.Rand, "0", "1", "-1", "4", "9", "1/2", "-7/3", "9/4", "2147483648", "1/2147483648")
	}
	return name
}

func (m *maker) tasks() string {
	text := ""
	for range 1 + m.Intn(3) {
		text += fmt.Sprint(" ", m.number(0, 3), " ", m.number(1, 12))
	}
	return text
}

// filled is works in which so many lines of a mood were executed.
func filled(seed int64, lines int, from mood) *works.Works {
	w := works.New()
	m := newMaker(seed, w)
	for range lines {
		w.Exec(m.line(from))
	}
	return w
}
