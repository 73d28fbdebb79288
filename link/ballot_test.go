package link

import (
	"testing"

	"tinplate/api"
)

// P9.1: no ballot above MaxBallot is used. Calls from outside reach it after a billion proposals only.
func TestMaxBallot(t *testing.T) {
	for n := 1; n <= api.MaxStations; n++ {
		for s := range n {
			last := api.MaxBallot
			for last%n != s {
				last--
			}
			for below := range 2*n + 1 {
				for _, told := range []bool{false, true} {
					net, _ := New(n)
					at := &net.stations[s].places[3]
					at.disk.promised = last - below
					if told {
						at.disk.promised, at.memory.told = 1, last-below
					}
					before := *at
					err := net.Propose(s, 3, "a")
					if below == 0 {
						if err != api.ErrFull || *at != before || len(net.waiting) > 0 {
							t.Error(n, s, told, err)
						}
						at.disk.known = "k"
						if err := net.Propose(s, 3, "a"); err != api.OK || len(net.waiting) != n-1 {
							t.Error("what is known needs no ballot", n, s, told, err)
						}
						continue
					}
					if b := at.disk.promised; err != api.OK || b > last || b <= last-below || b%n != s || b > last-below+n {
						t.Error(n, s, below, told, err, b)
					}
				}
			}
		}
	}
}
