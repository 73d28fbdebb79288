package link_test

import (
	"fmt"
	"math/rand"
	"strings"

	"tinplate/api"
)

// What a step does.
const (
	propose = iota
	deliver
	drop
	repeat
	crash
	start
	kinds
)

// A step is a call that changes a net.
type step struct {
	what, a, b int
	value      string
}

func (s step) String() string {
	name := []string{"propose", "deliver", "drop", "repeat", "crash", "start"}[s.what]
	return fmt.Sprint(name, " ", s.a, " ", s.b, " ", s.value)
}

// A mood says how often a random step is of each kind, on how many indexes, how often it is not valid, and whether the
// list is full from the start.
type mood struct {
	often   [kinds]int
	indexes int
	wrong   float64
	crowded bool
}

// Links that are good or bad, stations that quarrel, and lists that grow full.
var moods = []mood{
	{[kinds]int{propose: 5, deliver: 60, drop: 5, repeat: 10, crash: 1, start: 3}, 2, 0.02, false},
	{[kinds]int{propose: 10, deliver: 60, drop: 2, repeat: 2, crash: 0, start: 1}, 1, 0, false},
	{[kinds]int{propose: 4, deliver: 50, drop: 1, repeat: 1, crash: 4, start: 6}, 1, 0, false},
	{[kinds]int{propose: 3, deliver: 30, drop: 25, repeat: 20, crash: 1, start: 2}, 1, 0, false},
	{[kinds]int{propose: 8, deliver: 40, drop: 40, repeat: 5, crash: 1, start: 3}, 1, 0, false},
	{[kinds]int{propose: 10, deliver: 10, drop: 1, repeat: 30, crash: 1, start: 5}, 16, 0.05, false},
	{[kinds]int{propose: 1, deliver: 60, drop: 1, repeat: 20, crash: 0, start: 1}, 16, 0.03, true},
}

// pick draws what a step does.
func (m mood) pick(r *rand.Rand) int {
	all := 0
	for _, n := range m.often {
		all += n
	}
	x := r.Intn(all)
	for what, n := range m.often {
		if x -= n; x < 0 {
			return what
		}
	}
	return 0
}

// crowd is what makes the list of n stations full, if it is empty and all are up.
func crowd(r *rand.Rand, n int) []step {
	var l []step
	for i := range api.MaxIndex + 1 {
		l = append(l, step{what: propose, a: r.Intn(n), b: i, value: "v"})
	}
	for k := len(l) * n; k < api.MaxMessages; k++ {
		l = append(l, step{what: repeat, a: r.Intn(k)})
	}
	return l
}

// step draws a step for n stations and so many messages.
func (m mood) step(r *rand.Rand, n, messages int) step {
	s := step{what: m.pick(r)}
	if r.Float64() < m.wrong {
		s.a, s.b, s.value = odd(r, n), odd(r, api.MaxIndex+1), oddValue(r)
		return s
	}
	if messages == 0 && s.what != crash && s.what != start {
		s.what = propose
	}
	switch s.what {
	case propose:
		s.a, s.b, s.value = r.Intn(n), r.Intn(m.indexes), string(rune('a'+r.Intn(26)))
	case crash, start:
		s.a = r.Intn(n)
	default:
		if s.a = r.Intn(messages); r.Intn(3) == 0 {
			s.a = 0
		}
	}
	return s
}

// odd draws a number that is perhaps not from 0 to n - 1.
func odd(r *rand.Rand, n int) int {
	l := []int{-1 << 63, -1, 0, n - 1, n, n + 1, 1<<63 - 1}
	return l[r.Intn(len(l))]
}

// oddValue draws a value that is perhaps too long or empty.
func oddValue(r *rand.Rand) string {
	l := []string{"", "x", "\x00", strings.Repeat("y", api.MaxWord), strings.Repeat("z", api.MaxWord+1)}
	return l[r.Intn(len(l))]
}
