package works_test

import (
	"reflect"
	"slices"
	"strings"
	"testing"

	"tinplate/api"
	"tinplate/works"
)

// differs is how works differ from a model, an empty string if they do not.
func differs(w *works.Works, m *model) string {
	if !slices.Equal(w.Book(), m.book) {
		return "book"
	}
	if w.Audit() != m.audit() {
		return "audit"
	}
	for i, want := range m.lots {
		got, err := w.Lot(i + 1)
		if err != api.OK || !slices.Equal(got.From, want.From) {
			return "lot"
		}
		got.From, want.From = nil, nil
		if !reflect.DeepEqual(got, want) {
			return "lot"
		}
	}
	if _, err := w.Lot(len(m.lots) + 1); err != api.ErrNone {
		return "lots"
	}
	return ""
}

// P10.2 to P10.11: whatever is said, the works do what the chapter says, word for word.
func TestAgainstTheModel(t *testing.T) {
	found := map[string]map[string]int{}
	for run := range 300 {
		w, m := works.New(), newModel()
		lines := newMaker(int64(run), w)
		lines.wrong = []float64{0.02, 0.1}[run%2]
		from := []mood{all, all, join(making, tests), cooks, plans}[run%5]
		for range []int{200, 300, 300, 150, 30}[run%5] {
			line := lines.line(from)
			got, want := w.Exec(line), m.exec(line)
			if got != want {
				t.Fatal(run, line, got, want, w.Book())
			}
			note(found, line, got)
		}
		if d := differs(w, m); d != "" {
			t.Fatal(run, d)
		}
	}
	for name, replies := range map[string]string{
		"sheet": "ok 2 8", "pattern": "ok 2 7 10 8", "cut": "ok 6 9 2 10", "form": "ok 6 9 2", "part": "ok 6 9 2 8",
		"join": "ok 6 9 7 2 8", "hold": "ok 6 9", "free": "ok 6 9", "unit": "ok 3 7", "recipe": "ok 3 5 6 7 12",
		"job": "ok 2 3", "ship": "ok 6 9 2", "value": "ok 6 2 4 13 14", "plan": "ok", "late": "ok 2", "lot": "ok 6",
		"before": "ok 6", "after": "ok 6", "dominators": "ok 6", "suspects": "ok 2 6", "stop": "ok 2 6", "audit": "ok",
	} {
		for _, reply := range append(strings.Fields(replies), "line") {
			if found[name][reply] < 3 {
				t.Error(name, reply, found[name])
			}
		}
	}
}

// join is the sum of moods.
func join(moods ...mood) mood {
	sum := mood{}
	for _, m := range moods {
		for name, n := range m {
			sum[name] += n
		}
	}
	return sum
}

// note counts what was replied to a command: the number of an error, line or word, or ok.
func note(found map[string]map[string]int, line, reply string) {
	words := strings.Fields(line)
	if len(words) == 0 {
		return
	}
	name, kind := words[0], "ok"
	if rest, ok := strings.CutPrefix(reply, "! "); ok {
		kind = rest
	} else if rest, ok := strings.CutPrefix(reply, "? "); ok {
		kind = strings.Fields(rest)[0]
	}
	if found[name] == nil {
		found[name] = map[string]int{}
	}
	found[name][kind]++
}
