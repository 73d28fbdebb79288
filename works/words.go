package works

import (
	"strconv"
	"strings"

	"tinplate/api"
	"tinplate/lang"
	"tinplate/ratio"
)

// maxNumber is the greatest number in a line.
const maxNumber = 1 << 50

func hasWords(line string) bool { return strings.Trim(line, " ") != "" }

// read returns the command of a line, or the reply if it has none.
func read(line string) (command, string) {
	if !hasWords(line) {
		return nil, ""
	}
	odd := func(r rune) bool { return r < ' ' || r > '~' }
	if len(line) > api.MaxLine || strings.ContainsFunc(line, odd) {
		return nil, "? line"
	}
	return readWords(strings.Fields(line))
}

// readWords returns the command that words make, or the reply if they make none.
func readWords(words []string) (command, string) {
	name, rest := words[0], words[1:]
	if name == "if" && len(rest) > 0 {
		return readTrial(rest)
	}
	s, ok := shapeOf(name)
	if !ok || !s.fits(len(rest)) {
		return nil, "? line"
	}
	p, wrong := s.read(rest)
	if wrong > 0 {
		return nil, "? word " + strconv.Itoa(wrong)
	}
	if c := changeOf(name, p); c != nil {
		return entry{change: c, text: strings.Join(words, " ")}, ""
	}
	return lookOf(name, p), ""
}

func readTrial(words []string) (command, string) {
	c, wrong := readWords(words)
	if c == nil {
		return nil, wrong
	}
	return trial{c}, ""
}

// A shape says of which kinds the parameters of a command are: those that come first, and those that stand behind them
// from least to most times. The kinds are n for a number, a for a name, r for a ratio, and t for any text.
type shape struct {
	first, again string
	least, most  int
}

// shapeOf returns the shape of a command: false if there is no command of that name.
func shapeOf(name string) (shape, bool) {
	switch name {
	case "plan", "audit":
		return shape{}, true
	case "form", "hold", "free", "ship", "late", "lot", "before", "after", "dominators":
		return shape{first: "n"}, true
	case "sheet", "part":
		return shape{first: "nn"}, true
	case "cut":
		return shape{first: "na"}, true
	case "unit":
		return shape{first: "a"}, true
	case "pattern":
		return shape{first: "a", again: "nn", least: 3, most: 12}, true
	case "join":
		return shape{again: "n", least: 2, most: 8}, true
	case "recipe":
		return shape{again: "t", least: 1, most: 40}, true
	case "job":
		return shape{again: "nn", least: 1, most: 4}, true
	case "value":
		return shape{first: "a", again: "r", most: 3}, true
	case "suspects":
		return shape{first: "n", again: "n", least: 1, most: 12}, true
	case "stop":
		return shape{first: "n", again: "n", least: 2, most: 12}, true
	}
	return shape{}, false
}

// fits reports whether a command takes so many parameters.
func (s shape) fits(count int) bool {
	for times := s.least; times <= s.most; times++ {
		if count == len(s.first)+times*len(s.again) {
			return true
		}
	}
	return false
}

// kind returns the kind of a parameter.
func (s shape) kind(i int) byte {
	if i < len(s.first) {
		return s.first[i]
	}
	return s.again[(i-len(s.first))%len(s.again)]
}

// read returns the parameters of a command, and which of them is the first that is not of its kind: 0 if all are.
func (s shape) read(words []string) (params, int) {
	var p params
	for i, word := range words {
		if !p.add(s.kind(i), word) {
			return params{}, i + 1
		}
	}
	return p, 0
}

// A params is the parameters of a command, those of each kind in order.
type params struct {
	numbers []int
	names   []string
	ratios  []api.Ratio
	texts   []string
}

// add adds a parameter: false if it is not of that kind.
func (p *params) add(kind byte, word string) bool {
	switch kind {
	case 'n':
		n, ok := numberOf(word, maxNumber)
		p.numbers = append(p.numbers, n)
		return ok
	case 'a':
		p.names = append(p.names, word)
		return isName(word)
	case 'r':
		r, ok := ratioOf(word)
		p.ratios = append(p.ratios, r)
		return ok
	default: // 't'
		p.texts = append(p.texts, word)
		return true
	}
}

func (p params) points() []api.Vec {
	var list []api.Vec
	for i := 0; i < len(p.numbers); i += 2 {
		list = append(list, api.Vec{X: p.numbers[i], Y: p.numbers[i+1]})
	}
	return list
}

func (p params) tasks() []api.Task {
	var list []api.Task
	for i := 0; i < len(p.numbers); i += 2 {
		list = append(list, api.Task{Machine: p.numbers[i], Time: p.numbers[i+1]})
	}
	return list
}

// numberOf returns the number that a word says: false if it says none from -most to most.
func numberOf(word string, most int) (int, bool) {
	n, err := strconv.Atoi(word)
	return n, err == nil && strconv.Itoa(n) == word && -most <= n && n <= most
}

// isName reports whether a word is a name of layer 7, which knows what its names are.
func isName(word string) bool {
	_, _, err := lang.Parse("unit " + word)
	return err == api.OK
}

// ratioOf returns the ratio that a word says: false if it says none.
func ratioOf(word string) (api.Ratio, bool) {
	above, below, isFraction := strings.Cut(word, "/")
	num, ok := numberOf(above, api.MaxValue)
	if !isFraction {
		return api.Ratio{Num: num, Den: 1}, ok
	}
	den, also := numberOf(below, api.MaxValue)
	r := api.Ratio{Num: num, Den: den}
	return r, ok && also && den > 1 && ratio.Valid(r)
}

// written returns a ratio as ratioOf reads it.
func written(r api.Ratio) string {
	if r.Den == 1 {
		return strconv.Itoa(r.Num)
	}
	return strconv.Itoa(r.Num) + "/" + strconv.Itoa(r.Den)
}

// listed returns numbers with something between any two.
func listed(numbers []int, between string) string {
	words := make([]string, len(numbers))
	for i, n := range numbers {
		words[i] = strconv.Itoa(n)
	}
	return strings.Join(words, between)
}
