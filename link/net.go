package link

import (
	"slices"
	"sync"

	"tinplate/api"
)

func (t *Net) isZero() bool { return t == nil || len(t.stations) == 0 }

func (t *Net) hasStation(station int) bool { return station >= 0 && station < len(t.stations) }

func isIndex(index int) bool { return index >= 0 && index <= api.MaxIndex }

func isValue(value string) bool { return value != "" && len(value) <= api.MaxWord }

// check returns why there is no message k.
func (t *Net) check(k int) api.Errno {
	switch {
	case t.isZero():
		return api.ErrNil
	case k < 0 || k >= len(t.waiting):
		return api.ErrNone
	}
	return api.OK
}

// disk returns what a station has on disk for an index.
func (t *Net) disk(station, index int) (disk, api.Errno) {
	switch {
	case t.isZero():
		return disk{}, api.ErrNil
	case !t.hasStation(station):
		return disk{}, api.ErrNone
	case !isIndex(index):
		return disk{}, api.ErrArg
	}
	return t.stations[station].places[index].disk, api.OK
}

// turn takes a station down or brings it up, and leaves it with its disk only.
func (t *Net) turn(station int, down bool) api.Errno {
	switch {
	case t.isZero():
		return api.ErrNil
	case !t.hasStation(station):
		return api.ErrNone
	case t.stations[station].isDown == down:
		return api.ErrState
	}
	t.stations[station].isDown = down
	t.stations[station].forget()
	return api.OK
}

// without returns the list without message k.
func (t *Net) without(k int) []api.Message { return slices.Concat(t.waiting[:k], t.waiting[k+1:]) }

// hear lets the station to which a message is addressed hear it, if it is up, while the others wait.
func (t *Net) hear(m api.Message, others []api.Message) api.Errno {
	if t.stations[m.To].isDown {
		t.waiting = others
		return api.OK
	}
	at, sent := t.work(m)
	if len(others)+len(sent) > api.MaxMessages {
		return api.ErrFull
	}
	t.stations[m.To].places[m.Index] = at
	t.tallies[m.Index].count(m.To, at.disk.accepted, len(t.stations))
	t.waiting = append(others, sent...)
	return api.OK
}

// work lets a station work on a message in a goroutine. It returns what the station has for the index then, and what it
// sends. The net is as it was, as there may be no room for what is sent.
func (t *Net) work(m api.Message) (place, []api.Message) {
	hears, sends := make(chan api.Message), make(chan api.Message)
	w := worker{place: t.stations[m.To].places[m.Index], number: m.To, stations: len(t.stations), sends: sends}
	var working sync.WaitGroup
	working.Add(1)
	go func() {
		defer working.Done()
		w.work(hears)
	}()
	hears <- m
	close(hears)
	var sent []api.Message
	for s := range sends {
		sent = append(sent, s)
	}
	working.Wait()
	return w.place, sent
}
