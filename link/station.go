package link

import (
	"math/bits"

	"tinplate/api"
)

// station is a station with what it has for each index.
type station struct {
	isDown bool
	places [places]place
}

// forget is what a crash does.
func (s *station) forget() {
	for i := range s.places {
		s.places[i].memory = memory{}
	}
}

// place is what a station has for an index.
type place struct {
	disk   disk
	memory memory
}

// disk is what a station has left after a crash.
type disk struct {
	promised int // 0 if none
	accepted api.Accepted
	known    string // empty if none
}

// memory is what a station loses in a crash.
type memory struct {
	told     int // the highest ballot that a refusal told, 0 if none
	proposal proposal
}

// proposal is a station's own proposal; one with the ballot 0 is none.
type proposal struct {
	ballot int
	// The value that is to be accepted, as far as the promises so far tell: the station's own until one of them comes
	// with a value. It is fixed as soon as a majority has promised, and no promise is noted from then on.
	value    string
	old      int // the ballot with which that value was accepted, 0 for the station's own
	promised group
	accepted group
}

// highest returns the highest ballot that the station has promised or was told.
func (p place) highest() int { return max(p.disk.promised, p.memory.told) }

// nextBallot returns the lowest ballot above another one that belongs to a station.
func nextBallot(station, stations, above int) int {
	first := above + 1
	return first + (station-first%stations+stations)%stations
}

// group is a set of stations, as bits.
type group uint8

func (g group) with(station int) group { return g | 1<<station }

func (g group) has(station int) bool { return g == g.with(station) }

// isMajority reports whether a group is more than half of the stations.
func (g group) isMajority(stations int) bool { return 2*bits.OnesCount8(uint8(g)) > stations }
