package link_test

import (
	"math/rand"
	"slices"
	"testing"

	"tinplate/api"
	"tinplate/link"
)

// A witness has seen a net from its start, and knows what it should show for ever. It sees only what the net shows.
type witness struct {
	net      *link.Net
	stations int
	proposed [places][]string
	votes    [places]map[int]map[int]bool // by index, ballot and station
	before   map[spot]look
	chosen   [places]string
	accepted [places]map[string]bool // the values that stations have accepted at one time or another
}

const places = api.MaxIndex + 1

// A look is what a station has for an index.
type look struct {
	promised int
	accepted api.Accepted
	known    string
}

func newWitness(n int) *witness {
	w := &witness{net: newPair(n).net, stations: n, before: map[spot]look{}}
	for i := range w.votes {
		w.votes[i], w.accepted[i] = map[int]map[int]bool{}, map[string]bool{}
	}
	return w
}

// do makes a call.
func (w *witness) do(s step) api.Errno {
	err := s.call(w.net)
	if s.what == propose && err == api.OK {
		w.proposed[s.b] = append(w.proposed[s.b], s.value)
	}
	return err
}

// look looks at a station.
func (w *witness) look(at spot) look {
	p, e := w.net.Promised(at.station, at.index)
	a, f := w.net.Accepted(at.station, at.index)
	k, g := w.net.Known(at.station, at.index)
	if e != api.OK || f != api.OK || g != api.OK {
		panic(at)
	}
	return look{p, a, k}
}

// wrong looks at all stations for an index, and returns what should not be so, or an empty string.
func (w *witness) wrong(index int) string {
	majority := ""
	for s := range w.stations {
		at := spot{s, index}
		l, b := w.look(at), w.before[at]
		w.before[at] = l
		if l.promised < b.promised || l.accepted.Ballot < b.accepted.Ballot || l.accepted.Ballot > l.promised {
			return "a disk went back"
		}
		if b.known != "" && l.known != b.known {
			return "what was known is not any more"
		}
		majority += w.vote(at, l.accepted)
	}
	v, ok, err := w.net.Chosen(index)
	if err != api.OK || ok != (v != "") {
		return "chosen is not well formed"
	}
	if c := w.chosen[index]; c != "" && v != c || c == "" && v != majority {
		return "chosen is not what a majority accepted first"
	}
	w.chosen[index] = v
	return w.wrongValue(index)
}

// vote counts what a station has accepted, and returns the value if that makes a majority.
func (w *witness) vote(at spot, a api.Accepted) string {
	by := w.votes[at.index][a.Ballot]
	if a.Ballot == 0 || by[at.station] {
		return ""
	}
	if by == nil {
		by = map[int]bool{}
		w.votes[at.index][a.Ballot] = by
	}
	by[at.station] = true
	w.accepted[at.index][a.Value] = true
	if len(by) != w.stations/2+1 {
		return ""
	}
	return a.Value
}

// wrongValue checks the values for an index.
func (w *witness) wrongValue(index int) string {
	for s := range w.stations {
		if l := w.before[spot{s, index}]; l.known != "" && l.known != w.chosen[index] {
			return "what is known is not chosen"
		}
	}
	if v := w.chosen[index]; v != "" && !slices.Contains(w.proposed[index], v) {
		return "what is chosen was not proposed"
	}
	return ""
}

// P9.5, P9.6, P9.8, P9.9: stations agree, whatever happens.
func TestAgreement(t *testing.T) {
	r := rand.New(rand.NewSource(91))
	chosen, disputed := 0, 0
	for run := range 4000 {
		m := moods[run%6]
		w := newWitness(1 + r.Intn(api.MaxStations))
		for range 100 {
			s := m.step(r, w.stations, len(w.net.Messages()))
			w.do(s)
			for i := range m.indexes {
				if wrong := w.wrong(i); wrong != "" {
					t.Fatal(run, s, wrong)
				}
			}
		}
		for i := range m.indexes {
			if w.chosen[i] != "" {
				chosen++
				if len(w.accepted[i]) > 1 {
					disputed++
				}
			}
		}
	}
	if chosen < 1000 || disputed < 20 {
		t.Error(chosen, disputed)
	}
}

// A duel is a net in which stations propose, and only some of their messages arrive.
type duel struct {
	*witness
	t *testing.T
}

// pass delivers those messages of a kind and a sender that go to the stations in a set of bits, and the answers to
// them, and drops the others of that kind and sender.
func (d duel) pass(kind, from, set int) {
	for k := 0; k < len(d.net.Messages()); {
		m := d.net.Messages()[k]
		switch {
		case m.Kind != kind || m.From != from:
			k++
		case set>>m.To&1 == 0:
			d.must(step{what: drop, a: k})
		default:
			d.must(step{what: deliver, a: k})
			d.answer(m)
		}
	}
}

// answer delivers the answer to a message, which was sent last.
func (d duel) answer(to api.Message) {
	l := d.net.Messages()
	k := len(l) - 1
	if k < 0 || l[k].From != to.To || l[k].To != to.From || l[k].Ballot != to.Ballot {
		d.t.Fatal(to, l)
	}
	d.must(step{what: deliver, a: k})
}

func (d duel) must(s step) {
	if err := d.do(s); err != api.OK {
		d.t.Fatal(s, err)
	}
	if wrong := d.wrong(0); wrong != "" {
		d.t.Fatal(s, wrong)
	}
}

// play makes a turn of a station: its first one is to propose and to ask a set of stations for promises, the second one
// is to ask a set for acceptance, if there is a majority of promises; and so on.
func (d duel) play(from, turn, set int) {
	if turn%2 == 1 {
		d.pass(api.MsgAccept, from, set)
		return
	}
	d.must(step{what: propose, a: from, value: string(rune('a' + from))})
	d.pass(api.MsgPrepare, from, set)
}

// finish loses what is on its way, and lets the last station propose until it knows a value, at most twice.
func (d duel) finish() string {
	for len(d.net.Messages()) > 0 {
		d.must(step{what: drop})
	}
	last := spot{d.stations - 1, 0}
	for range 2 {
		d.must(step{what: propose, a: last.station, value: "z"})
		if _, err := d.net.Settle(api.MaxFuel); err != api.OK {
			d.t.Fatal(err)
		}
		if wrong := d.wrong(0); wrong != "" {
			d.t.Fatal(wrong)
		}
	}
	return d.look(last).known
}

// end finishes a duel, and returns the value that was chosen before and the one that is known then.
func (d duel) end() string {
	before, ok, _ := d.net.Chosen(0)
	v := d.finish()
	if v == "" || ok && v != before {
		d.t.Fatal(before, v)
	}
	return before + v
}

// P9.5, P9.7: in whatever order two of three stations ask for promises and for acceptance, and whichever stations hear
// them, the value that is chosen stays so, and the third one gets to know it.
func TestDuels(t *testing.T) {
	found := map[string]int{}
	for _, order := range [][]int{{0, 0, 1, 1}, {0, 1, 0, 1}, {0, 1, 1, 0}, {1, 0, 0, 1}, {1, 0, 1, 0}, {1, 1, 0, 0}} {
		for sets := range 1 << 12 {
			d := duel{newWitness(3), t}
			turns := [2]int{}
			for _, from := range order {
				d.play(from, turns[from], sets>>(6*from+3*turns[from])&7)
				turns[from]++
			}
			found[d.end()]++
		}
	}
	for _, way := range []string{"aa", "bb", "a", "b", "z"} {
		if found[way] < 100 {
			t.Error(found)
		}
	}
}

// P9.5, P9.7: the same for more stations and more proposals, at random, and with crashes.
func TestLongDuels(t *testing.T) {
	r := rand.New(rand.NewSource(92))
	disputed, chosen := 0, 0
	for range 3000 {
		d := duel{newWitness(2 + r.Intn(api.MaxStations-1)), t}
		turns := [api.MaxStations]int{}
		for range 8 + r.Intn(8) {
			from := r.Intn(d.stations)
			if r.Intn(8) == 0 {
				d.must(step{what: crash, a: from})
				d.must(step{what: start, a: from})
			}
			d.play(from, turns[from], r.Intn(1<<d.stations))
			turns[from]++
		}
		if end := d.end(); len(end) > 1 {
			chosen++
		}
		if len(d.accepted[0]) > 1 {
			disputed++
		}
	}
	if chosen < 500 || disputed < 200 {
		t.Error(chosen, disputed)
	}
}

// P9.5: example 2. Whether 0 answers before the value is fixed makes all the difference.
func TestExampleTwo(t *testing.T) {
	for _, started := range []bool{false, true} {
		net := made(t, 3)
		ok(t, net.Propose(0, 0, "a"))
		for range 6 {
			ok(t, net.Deliver(0))
		}
		ok(t, net.Deliver(0), net.Crash(0), net.Drop(0), net.Drop(0), net.Drop(0))
		if a, _ := net.Accepted(0, 0); a != (api.Accepted{Ballot: 3, Value: "a"}) {
			t.Fatal(a)
		}
		want := "b"
		if started {
			want = "a"
			ok(t, net.Start(0))
		}
		ok(t, net.Propose(1, 0, "b"))
		if started {
			ok(t, net.Deliver(0), net.Deliver(1), net.Deliver(0), net.Deliver(0), net.Deliver(0)) // 0 and 2 before 1
		}
		settle(t, net)
		for s := range 3 {
			if v := known(t, net, s, 0); v != want && (s > 0 || started) {
				t.Error(started, s, v)
			}
		}
		if v, is, _ := net.Chosen(0); v != want || !is {
			t.Error(started, v, is)
		}
	}
}

// refuses lets a station propose at 0 and delivers everything, and reports whether its ballot is refused.
func refuses(t *testing.T, net *link.Net, station int) bool {
	t.Helper()
	ok(t, net.Propose(station, 0, "p"))
	ballot, _ := net.Promised(station, 0)
	copied, refused := net.Copy(), false
	for len(copied.Messages()) > 0 {
		m := copied.Messages()[0]
		refused = refused || m.Kind == api.MsgRefuse && m.To == station && m.Ballot == ballot
		ok(t, copied.Deliver(0))
	}
	settle(t, net)
	return refused
}

// gather loses all messages and lets a station and perhaps others be up, and returns how many.
func gather(t *testing.T, r *rand.Rand, net *link.Net, n, station int) int {
	t.Helper()
	for len(net.Messages()) > 0 {
		ok(t, net.Drop(0))
	}
	all := 0
	for s := range n {
		up, err := net.Up(s)
		ok(t, err)
		should := s == station || r.Intn(2) == 0
		if should {
			all++
		}
		if should && !up {
			ok(t, net.Start(s))
		} else if !should && up {
			ok(t, net.Crash(s))
		}
	}
	return all
}

// P9.7: a station that proposes while a majority is up gets to know a value, at once or, if its ballot was refused, when
// it proposes once more; while there is no majority, it does not.
func TestProgress(t *testing.T) {
	r := rand.New(rand.NewSource(96))
	found := map[string]int{}
	for run := range 4000 {
		n := 1 + r.Intn(api.MaxStations)
		net := made(t, n)
		for range r.Intn(40) {
			moods[run%6].step(r, n, len(net.Messages())).call(net)
		}
		station := r.Intn(n)
		up := gather(t, r, net, n, station)
		if known(t, net, station, 0) != "" {
			found["before"]++
			continue
		}
		refused := refuses(t, net, station)
		switch v := known(t, net, station, 0); {
		case 2*up <= n && v != "" || 2*up > n && v == "" && !refused:
			t.Fatal(run, up, v, shown(net))
		case 2*up <= n:
			found["never"]++
		case v != "":
			found["at once"]++
		default:
			found["once more"]++
			if refuses(t, net, station) || known(t, net, station, 0) == "" {
				t.Fatal(run, up, shown(net))
			}
		}
	}
	if found["before"] < 100 || found["never"] < 500 || found["at once"] < 500 || found["once more"] < 100 {
		t.Error(found)
	}
}
