package link_test

import (
	"fmt"
	"maps"
	"slices"

	"tinplate/api"
	"tinplate/link"
)

// A model is a net that follows the chapter word for word: it keeps all that stations have noted, and all that ever
// happened, and a call is made on a copy that is thrown away with an error.
type model struct {
	n         int
	list      []api.Message
	down      map[int]bool
	promised  map[spot]int
	accepted  map[spot]api.Accepted
	known     map[spot]string
	proposals map[spot]plan
	told      map[spot][]int
	votes     []vote // all that was accepted, at any time
	wishes    []wish // all that was proposed
	refused   []spot // all proposals that were dropped for a refusal
}

// A spot is an index at a station.
type spot struct{ station, index int }

type vote struct {
	spot
	api.Accepted
}

type wish struct {
	index int
	value string
}

// A plan is a proposal.
type plan struct {
	ballot   int
	own      string
	promises map[int]api.Accepted
	fixed    bool
	value    string
	accepts  map[int]bool
}

func newModel(n int) *model {
	return &model{
		n: n, down: map[int]bool{}, promised: map[spot]int{}, accepted: map[spot]api.Accepted{}, known: map[spot]string{},
		proposals: map[spot]plan{}, told: map[spot][]int{},
	}
}

func (m *model) copy() *model {
	c := *m
	c.list, c.votes = slices.Clone(m.list), slices.Clone(m.votes)
	c.wishes, c.refused = slices.Clone(m.wishes), slices.Clone(m.refused)
	c.down, c.promised, c.accepted = maps.Clone(m.down), maps.Clone(m.promised), maps.Clone(m.accepted)
	c.known, c.proposals, c.told = maps.Clone(m.known), maps.Clone(m.proposals), maps.Clone(m.told)
	for at, p := range c.proposals {
		p.promises, p.accepts = maps.Clone(p.promises), maps.Clone(p.accepts)
		c.proposals[at] = p
	}
	for at, l := range c.told {
		c.told[at] = slices.Clone(l)
	}
	return &c
}

// most reports whether so many stations are more than half of them.
func (m *model) most(stations int) bool { return stations > m.n-stations }

// send sends a message to the stations for which there is a reason to.
func (m *model) send(from int, msg api.Message, to ...int) {
	for _, s := range to {
		msg.From, msg.To = from, s
		m.list = append(m.list, msg)
	}
}

func (m *model) all() []int {
	var l []int
	for s := 0; s < m.n; s++ {
		l = append(l, s)
	}
	return l
}

func (m *model) others(station int) []int {
	return slices.DeleteFunc(m.all(), func(s int) bool { return s == station })
}

// ballot is the lowest ballot that a station may use: tried one by one.
func (m *model) ballot(at spot) int {
	for b := m.promised[at] + 1; ; b++ {
		if b%m.n == at.station && !slices.ContainsFunc(m.told[at], func(t int) bool { return t >= b }) {
			return b
		}
	}
}

func (m *model) propose(station, index int, value string) api.Errno {
	if index < 0 || index > 15 || len(value) < 1 || len(value) > 64 {
		return api.ErrArg
	}
	if station < 0 || station >= m.n {
		return api.ErrNone
	}
	if m.down[station] {
		return api.ErrState
	}
	at := spot{station, index}
	m.wishes = append(m.wishes, wish{index, value})
	if v := m.known[at]; v != "" {
		m.send(station, api.Message{Kind: 6, Index: index, Value: v}, m.others(station)...)
	} else {
		b := m.ballot(at)
		m.proposals[at] = plan{ballot: b, own: value, promises: map[int]api.Accepted{}, accepts: map[int]bool{}}
		m.promised[at] = b
		m.send(station, api.Message{Kind: 1, Index: index, Ballot: b}, m.all()...)
	}
	if len(m.list) > 400 {
		return api.ErrFull
	}
	return api.OK
}

func (m *model) deliver(k int) api.Errno {
	if k < 0 || k >= len(m.list) {
		return api.ErrNone
	}
	msg := m.list[k]
	m.list = slices.Delete(m.list, k, k+1)
	if m.down[msg.To] {
		return api.OK
	}
	switch msg.Kind {
	case 1:
		m.onPrepare(msg)
	case 2:
		m.onPromise(msg)
	case 3:
		m.onAccept(msg)
	case 4:
		m.onAccepted(msg)
	case 5:
		m.onRefuse(msg)
	case 6:
		m.onLearn(msg)
	}
	if len(m.list) > 400 {
		return api.ErrFull
	}
	return api.OK
}

func (m *model) onPrepare(msg api.Message) {
	at := spot{msg.To, msg.Index}
	if m.promised[at] > msg.Ballot {
		m.send(at.station, api.Message{Kind: 5, Index: at.index, Ballot: msg.Ballot, Old: m.promised[at]}, msg.From)
		return
	}
	m.promised[at] = msg.Ballot
	a := m.accepted[at]
	m.send(at.station, api.Message{Kind: 2, Index: at.index, Ballot: msg.Ballot, Old: a.Ballot, Value: a.Value}, msg.From)
}

func (m *model) onPromise(msg api.Message) {
	at := spot{msg.To, msg.Index}
	p, open := m.proposals[at]
	if !open || p.ballot != msg.Ballot || p.fixed {
		return
	}
	if _, noted := p.promises[msg.From]; noted {
		return
	}
	p.promises[msg.From] = api.Accepted{Ballot: msg.Old, Value: msg.Value}
	if m.most(len(p.promises)) {
		p.fixed, p.value = true, p.own
		old := 0
		for _, a := range p.promises {
			if a.Ballot > old {
				old, p.value = a.Ballot, a.Value
			}
		}
		m.send(at.station, api.Message{Kind: 3, Index: at.index, Ballot: p.ballot, Value: p.value}, m.all()...)
	}
	m.proposals[at] = p
}

func (m *model) onAccept(msg api.Message) {
	at := spot{msg.To, msg.Index}
	if msg.Ballot >= m.promised[at] {
		a := api.Accepted{Ballot: msg.Ballot, Value: msg.Value}
		m.promised[at], m.accepted[at] = msg.Ballot, a
		m.votes = append(m.votes, vote{at, a})
		m.send(at.station, api.Message{Kind: 4, Index: at.index, Ballot: msg.Ballot}, msg.From)
		return
	}
	m.send(at.station, api.Message{Kind: 5, Index: at.index, Ballot: msg.Ballot, Old: m.promised[at]}, msg.From)
}

func (m *model) onAccepted(msg api.Message) {
	at := spot{msg.To, msg.Index}
	p, open := m.proposals[at]
	if !open || p.ballot != msg.Ballot || !p.fixed {
		return
	}
	p.accepts[msg.From] = true
	if m.most(len(p.accepts)) {
		m.known[at] = p.value
		delete(m.proposals, at)
		m.send(at.station, api.Message{Kind: 6, Index: at.index, Value: p.value}, m.others(at.station)...)
	}
}

func (m *model) onRefuse(msg api.Message) {
	at := spot{msg.To, msg.Index}
	m.told[at] = append(m.told[at], msg.Old)
	if p, open := m.proposals[at]; open && p.ballot == msg.Ballot {
		delete(m.proposals, at)
		m.refused = append(m.refused, at)
	}
}

func (m *model) onLearn(msg api.Message) {
	at := spot{msg.To, msg.Index}
	if m.known[at] == "" {
		m.known[at] = msg.Value
		delete(m.proposals, at)
	}
}

func (m *model) drop(k int) api.Errno {
	if k < 0 || k >= len(m.list) {
		return api.ErrNone
	}
	m.list = slices.Delete(m.list, k, k+1)
	return api.OK
}

func (m *model) repeat(k int) api.Errno {
	if k < 0 || k >= len(m.list) {
		return api.ErrNone
	}
	if m.list = append(m.list, m.list[k]); len(m.list) > 400 {
		return api.ErrFull
	}
	return api.OK
}

func (m *model) crash(station int) api.Errno {
	if station < 0 || station >= m.n {
		return api.ErrNone
	}
	if m.down[station] {
		return api.ErrState
	}
	m.down[station] = true
	maps.DeleteFunc(m.proposals, func(at spot, _ plan) bool { return at.station == station })
	maps.DeleteFunc(m.told, func(at spot, _ []int) bool { return at.station == station })
	return api.OK
}

func (m *model) start(station int) api.Errno {
	if station < 0 || station >= m.n {
		return api.ErrNone
	}
	if !m.down[station] {
		return api.ErrState
	}
	delete(m.down, station)
	return api.OK
}

// chosen looks for ballots that a majority accepted among all that was ever accepted, and returns the values.
func (m *model) chosen(index int) []string {
	var values []string
	voters := map[int]map[int]bool{}
	for _, v := range m.votes {
		if v.index != index {
			continue
		}
		if voters[v.Ballot] == nil {
			voters[v.Ballot] = map[int]bool{}
		}
		voters[v.Ballot][v.station] = true
		if m.most(len(voters[v.Ballot])) && !slices.Contains(values, v.Value) {
			values = append(values, v.Value)
		}
	}
	return values
}

// A pair is a net and the model of it.
type pair struct {
	net   *link.Net
	model *model
}

func newPair(n int) *pair {
	t, err := link.New(n)
	if err != api.OK {
		panic(err)
	}
	return &pair{t, newModel(n)}
}

func (p *pair) copy() *pair { return &pair{p.net.Copy(), p.model.copy()} }

// step makes a call of both, which is kept in the model only if it is not an error. Their errors should be the same.
func (p *pair) step(s step) (api.Errno, api.Errno) {
	m := p.model.copy()
	got, want := s.call(p.net), m.call(s)
	if want == api.OK {
		p.model = m
	}
	return got, want
}

// must makes a call of both that should not be an error, and reports whether it was none.
func (p *pair) must(s step) bool { return s.call(p.net) == api.OK && p.model.call(s) == api.OK }

func (s step) call(t *link.Net) api.Errno {
	switch s.what {
	case propose:
		return t.Propose(s.a, s.b, s.value)
	case deliver:
		return t.Deliver(s.a)
	case drop:
		return t.Drop(s.a)
	case repeat:
		return t.Repeat(s.a)
	case crash:
		return t.Crash(s.a)
	default:
		return t.Start(s.a)
	}
}

func (m *model) call(s step) api.Errno {
	switch s.what {
	case propose:
		return m.propose(s.a, s.b, s.value)
	case deliver:
		return m.deliver(s.a)
	case drop:
		return m.drop(s.a)
	case repeat:
		return m.repeat(s.a)
	case crash:
		return m.crash(s.a)
	default:
		return m.start(s.a)
	}
}

// differs returns what a net shows that the model does not have, or an empty string.
func (p *pair) differs() string {
	t, m := p.net, p.model
	if l := t.Messages(); !slices.Equal(l, m.list) {
		return fmt.Sprint("messages ", l, m.list)
	}
	for s := range m.n {
		if up, err := t.Up(s); up == m.down[s] || err != api.OK {
			return fmt.Sprint("up ", s, up, err)
		}
		for i := range api.MaxIndex + 1 {
			at := spot{s, i}
			if b, err := t.Promised(s, i); b != m.promised[at] || err != api.OK {
				return fmt.Sprint("promised ", at, b, err)
			}
			if a, err := t.Accepted(s, i); a != m.accepted[at] || err != api.OK {
				return fmt.Sprint("accepted ", at, a, err)
			}
			if v, err := t.Known(s, i); v != m.known[at] || err != api.OK {
				return fmt.Sprint("known ", at, v, err)
			}
		}
	}
	return ""
}

// differsInChoice is as differs, for what is chosen.
func (p *pair) differsInChoice() string {
	for i := range api.MaxIndex + 1 {
		values := p.model.chosen(i)
		v, ok, err := p.net.Chosen(i)
		if err != api.OK || ok != (len(values) > 0) || ok && v != values[0] || !ok && v != "" || len(values) > 1 {
			return fmt.Sprint("chosen ", i, v, ok, err, values)
		}
	}
	return ""
}
