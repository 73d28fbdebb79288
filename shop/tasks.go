package shop

import (
	"slices"

	"tinplate/api"
)

// A task knows the number of its job. Its own number is its place in a list of all tasks.
type task struct {
	api.Task
	job int
}

// number returns the tasks of all jobs by their numbers, or the error of the jobs.
func number(jobs [][]api.Task) ([]task, api.Errno) {
	if !fits(jobs) {
		return nil, api.ErrLimit
	}
	var tasks []task
	for job, list := range jobs {
		for _, t := range list {
			if !isMachine(t.Machine) || t.Time < 1 || t.Time > api.MaxDuration {
				return nil, api.ErrArg
			}
			tasks = append(tasks, task{t, job})
		}
	}
	return tasks, api.OK
}

func fits(jobs [][]api.Task) bool {
	if len(jobs) > api.MaxJobs {
		return false
	}
	all := 0
	for _, list := range jobs {
		if len(list) > api.MaxTasks {
			return false
		}
		all += len(list)
	}
	return all <= api.MaxAll
}

// follows reports whether a task is the next one of its job after the one with the number before.
func follows(tasks []task, number int) bool {
	return number > 0 && tasks[number-1].job == tasks[number].job
}

func latest(tasks []task, starts []int) int {
	if len(tasks) == 0 {
		return 0
	}
	ends := slices.Clone(starts)
	for i, t := range tasks {
		ends[i] += t.Time
	}
	return slices.Max(ends)
}

func feasible(tasks []task, starts []int) bool {
	for i, t := range tasks {
		if starts[i] < 0 || follows(tasks, i) && starts[i] < starts[i-1]+tasks[i-1].Time {
			return false
		}
		for j, u := range tasks[:i] {
			if t.Machine == u.Machine && starts[i] < starts[j]+u.Time && starts[j] < starts[i]+t.Time {
				return false
			}
		}
	}
	return true
}
