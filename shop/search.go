package shop

import (
	"math"
	"slices"

	"tinplate/api"
)

// A search goes through the schedules in which the tasks are placed one after the other, each to start as early as it
// can. The first of the shortest schedules is one of them: placed in the order of its starts, no task starts later.
type search struct {
	tasks    []task
	tails    []int
	starts   []int
	makespan int
}

// A partial is a schedule of the tasks that are placed so far.
type partial struct {
	starts, ends [api.MaxAll]int
	placed       [api.MaxAll]bool
	free         [api.MaxMachine + 1]int // when each machine has nothing more to do
	count        int
}

func shortest(tasks []task) ([]int, int) {
	m, _ := measure(tasks, byJobs(tasks))
	s := search{tasks: tasks, tails: m.tails, makespan: math.MaxInt}
	s.extend(partial{})
	return s.starts, s.makespan
}

func (s *search) extend(p partial) {
	if p.count == len(s.tasks) {
		s.keep(p.starts[:p.count])
		return
	}
	for i := range s.tasks {
		if p.placed[i] || follows(s.tasks, i) && !p.placed[i-1] {
			continue
		}
		if next := s.place(p, i); next.ends[i]+s.tails[i] <= s.makespan {
			s.extend(next)
		}
	}
}

func (s *search) place(p partial, i int) partial {
	t := s.tasks[i]
	start := p.free[t.Machine]
	if follows(s.tasks, i) {
		start = max(start, p.ends[i-1])
	}
	p.starts[i], p.ends[i], p.placed[i] = start, start+t.Time, true
	p.free[t.Machine] = p.ends[i]
	p.count++
	return p
}

// keep keeps a schedule if it is better. It is never longer than the best one: the search turns back before.
func (s *search) keep(starts []int) {
	makespan := latest(s.tasks, starts)
	if makespan < s.makespan || slices.Compare(starts, s.starts) < 0 {
		s.starts, s.makespan = slices.Clone(starts), makespan
	}
}
