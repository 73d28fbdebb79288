package link_test

import (
	"math/rand"
	"testing"

	"tinplate/api"
)

// P9.1, P9.2, P9.4: whatever is called, the net does what the chapter says, word for word.
func TestAgainstTheModel(t *testing.T) {
	r := rand.New(rand.NewSource(90))
	found := map[int]map[api.Errno]int{}
	check := func(p *pair, s step) {
		got, want := p.step(s)
		if got != want {
			t.Fatal(s, got, want)
		}
		if got != api.OK || r.Intn(6) == 0 {
			if d := p.differs(); d != "" {
				t.Fatal(s, got, d)
			}
		}
		if found[s.what] == nil {
			found[s.what] = map[api.Errno]int{}
		}
		found[s.what][got]++
	}
	for run := range 350 {
		m := moods[run%len(moods)]
		p := newPair(1 + r.Intn(api.MaxStations))
		if m.crowded {
			for _, s := range crowd(r, p.model.n) {
				check(p, s)
			}
		}
		for range 300 {
			check(p, m.step(r, p.model.n, len(p.model.list)))
		}
		if d := p.differsInChoice(); d != "" {
			t.Fatal(run, d)
		}
	}
	for what, errs := range [kinds][]api.Errno{
		propose: {api.OK, api.ErrArg, api.ErrNone, api.ErrState, api.ErrFull},
		deliver: {api.OK, api.ErrNone, api.ErrFull},
		drop:    {api.OK, api.ErrNone},
		repeat:  {api.OK, api.ErrNone, api.ErrFull},
		crash:   {api.OK, api.ErrNone, api.ErrState},
		start:   {api.OK, api.ErrNone, api.ErrState},
	} {
		for _, err := range errs {
			if found[what][err] < 10 {
				t.Error(what, err, found[what])
			}
		}
		if len(found[what]) != len(errs) {
			t.Error(what, found[what])
		}
	}
}
