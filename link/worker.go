package link

import (
	"tinplate/api"
)

// order is the kind of what makes a station propose: with the ballot that it is to use. It is never in the list.
const order = 0

// worker is a station at work on what it has for an index.
type worker struct {
	place
	number   int
	stations int // how many there are
	sends    chan<- api.Message
}

// work works on all that the station hears.
func (w *worker) work(hears <-chan api.Message) {
	defer close(w.sends)
	for m := range hears {
		w.hear(m)
	}
}

func (w *worker) hear(m api.Message) {
	switch m.Kind {
	case order:
		w.propose(m)
	case api.MsgPrepare:
		w.prepare(m)
	case api.MsgPromise:
		w.notePromise(m)
	case api.MsgAccept:
		w.accept(m)
	case api.MsgAccepted:
		w.noteAccepted(m)
	case api.MsgRefuse:
		w.noteRefusal(m)
	case api.MsgLearn:
		w.learn(m)
	}
}

func (w *worker) propose(m api.Message) {
	if w.disk.known != "" {
		w.teach(m.Index)
		return
	}
	w.disk.promised = m.Ballot
	w.memory.proposal = proposal{ballot: m.Ballot, value: m.Value}
	w.sendAll(api.Message{Kind: api.MsgPrepare, Ballot: m.Ballot, Index: m.Index})
}

func (w *worker) prepare(m api.Message) {
	if m.Ballot < w.disk.promised {
		w.refuse(m)
		return
	}
	w.disk.promised = m.Ballot
	a := w.disk.accepted
	w.send(m.From, api.Message{Kind: api.MsgPromise, Ballot: m.Ballot, Index: m.Index, Old: a.Ballot, Value: a.Value})
}

func (w *worker) notePromise(m api.Message) {
	p := &w.memory.proposal
	if m.Ballot != p.ballot || p.promised.isMajority(w.stations) || p.promised.has(m.From) {
		return
	}
	p.promised = p.promised.with(m.From)
	if m.Old > p.old {
		p.old, p.value = m.Old, m.Value
	}
	if p.promised.isMajority(w.stations) {
		w.sendAll(api.Message{Kind: api.MsgAccept, Ballot: p.ballot, Index: m.Index, Value: p.value})
	}
}

func (w *worker) accept(m api.Message) {
	if m.Ballot < w.disk.promised {
		w.refuse(m)
		return
	}
	w.disk.promised = m.Ballot
	w.disk.accepted = api.Accepted{Ballot: m.Ballot, Value: m.Value}
	w.send(m.From, api.Message{Kind: api.MsgAccepted, Ballot: m.Ballot, Index: m.Index})
}

func (w *worker) noteAccepted(m api.Message) {
	p := &w.memory.proposal
	if m.Ballot != p.ballot || !p.promised.isMajority(w.stations) {
		return
	}
	p.accepted = p.accepted.with(m.From)
	if p.accepted.isMajority(w.stations) {
		w.know(p.value)
		w.teach(m.Index)
	}
}

func (w *worker) noteRefusal(m api.Message) {
	w.memory.told = max(w.memory.told, m.Old)
	if m.Ballot == w.memory.proposal.ballot {
		w.memory.proposal = proposal{}
	}
}

func (w *worker) learn(m api.Message) {
	if w.disk.known == "" {
		w.know(m.Value)
	}
}

// know puts the value that is chosen on disk; there is nothing to propose any more.
func (w *worker) know(value string) {
	w.disk.known = value
	w.memory.proposal = proposal{}
}

func (w *worker) refuse(m api.Message) {
	w.send(m.From, api.Message{Kind: api.MsgRefuse, Ballot: m.Ballot, Index: m.Index, Old: w.disk.promised})
}

// teach sends the value that the station knows to all others.
func (w *worker) teach(index int) {
	for to := range w.stations {
		if to != w.number {
			w.send(to, api.Message{Kind: api.MsgLearn, Index: index, Value: w.disk.known})
		}
	}
}

func (w *worker) sendAll(m api.Message) {
	for to := range w.stations {
		w.send(to, m)
	}
}

func (w *worker) send(to int, m api.Message) {
	m.From, m.To = w.number, to
	w.sends <- m
}
