package link

import (
	"tinplate/api"
)

// tally counts who has accepted what for an index, at one time or another, until a value is chosen.
type tally struct {
	chosen  string        // empty if nothing is
	ballots map[int]group // while nothing is chosen: the stations that have accepted each ballot
}

// count counts what a station has accepted. It may have been counted before.
func (t *tally) count(station int, a api.Accepted, stations int) {
	if t.chosen != "" || a.Ballot == 0 {
		return
	}
	if t.ballots == nil {
		t.ballots = map[int]group{}
	}
	t.ballots[a.Ballot] = t.ballots[a.Ballot].with(station)
	if t.ballots[a.Ballot].isMajority(stations) {
		*t = tally{chosen: a.Value} // no other value can be chosen any more (P9.5)
	}
}
