package works_test

import (
	"slices"
	"strconv"
	"strings"
	"testing"

	"tinplate/api"
	"tinplate/works"
)

// P10.11, P10.12: nothing is lost: what was cut is what there is, whatever is parted, joined, formed, held and shipped.
func TestNothingIsLost(t *testing.T) {
	parted, joined, shipped := 0, 0, 0
	for seed := range 100 {
		w := works.New()
		m := newMaker(int64(3000+seed), w)
		pieces := 0
		for range 200 {
			before := w.Audit()
			line := m.line(join(making, mood{"ship": 4}))
			words, reply := strings.Fields(line), w.Exec(line)
			after := w.Audit()
			if accepted := len(w.Book()) > before.Commands; accepted && words[0] == "cut" {
				n, err := strconv.Atoi(strings.Fields(reply)[2])
				if err != nil {
					t.Fatal(reply)
				}
				pieces += n
			} else if accepted && words[0] == "part" {
				parted++
			} else if accepted && words[0] == "join" {
				joined++
			}
			if !after.Good || after.Pieces != pieces || after.Shipped < before.Shipped || after.Scrap < before.Scrap {
				t.Fatal(seed, line, reply, before, after, pieces)
			}
		}
		shipped += w.Audit().Shipped
		for no := 1; no <= w.Audit().Lots; no++ {
			if l, _ := w.Lot(no); !slices.IsSorted(l.From) || len(l.From) > 0 && l.From[len(l.From)-1] >= no {
				t.Error(seed, l)
			}
		}
	}
	if parted < 200 || joined < 200 || shipped < 200 {
		t.Error(parted, joined, shipped)
	}
}

// P10.15: works that are read from a book are the same, and stay so.
func TestReadAgain(t *testing.T) {
	for seed := range 80 {
		w := filled(int64(4000+seed), 10+seed*4, []mood{all, making, cooks, plans}[seed%4])
		again, n, err := works.Read(w.Book())
		if n != 0 || err != api.OK {
			t.Fatal(seed, n, err)
		}
		if !slices.Equal(w.Book(), again.Book()) || w.Audit() != again.Audit() || shown(w) != shown(again) {
			t.Fatal(seed)
		}
		m := newMaker(int64(5000+seed), w)
		for range 60 {
			line := m.line(all)
			say(t, again, line, w.Exec(line))
		}
		if shown(w) != shown(again) {
			t.Fatal(seed)
		}
	}
}

// P10.10, P10.17: what is refused, what only looks, and what begins with if leaves all as it is; and if tells what comes.
func TestWhatLeavesAllAsItIs(t *testing.T) {
	kept, tried := 0, 0
	for seed := range 60 {
		w, control := works.New(), works.New()
		m := newMaker(int64(6000+seed), w)
		m.wrong = 0.1
		for range 120 {
			line := m.line([]mood{all, making, join(cooks, plans)}[seed%3])
			commands, before := len(w.Book()), w.Audit()
			foreseen := w.Exec("if " + line)
			if w.Audit() != before {
				t.Fatal(seed, line)
			}
			reply := w.Exec(line)
			if reply != foreseen && strings.TrimSpace(line) != "" {
				t.Fatal(seed, line, reply, foreseen)
			}
			if len(w.Book()) > commands {
				say(t, control, line, reply)
				tried++
				continue
			}
			kept++
			if w.Audit() != before || control.Copy().Exec(line) != reply {
				t.Fatal(seed, line, reply)
			}
		}
		if shown(w) != shown(control) {
			t.Fatal(seed)
		}
	}
	if kept < 1000 || tried < 1000 {
		t.Error(kept, tried)
	}
}
