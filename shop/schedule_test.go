package shop_test

import (
	"math"
	"math/rand"
	"reflect"
	"slices"
	"testing"

	"tinplate/api"
	"tinplate/shop"
)

// P6.1
func TestMakespan(t *testing.T) {
	tests := []struct {
		name     string
		jobs     [][]api.Task
		starts   []int
		makespan int
		feasible bool
	}{
		{"the shortest schedule", example, []int{0, 3, 0, 3}, 7, true},
		{"a later one", example, []int{10, 20, 0, 2}, 22, true},
		{"a task before the end of the one before it", example, []int{0, 2, 0, 3}, 7, false},
		{"two tasks of a machine overlap", example, []int{0, 3, 0, 2}, 6, false},
		{"one inside the other", jobs(job(0, 5), job(0, 1)), []int{0, 2}, 5, false},
		{"the other around it", jobs(job(0, 1), job(0, 5)), []int{2, 0}, 5, false},
		{"at the same time", jobs(job(0, 5), job(0, 5)), []int{4, 4}, 9, false},
		{"one right after the other", jobs(job(0, 5), job(0, 1)), []int{1, 0}, 6, true},
		{"on two machines at the same time", jobs(job(0, 5), job(1, 5)), []int{0, 0}, 5, true},
		{"of one job at the same time, on two machines", jobs(job(0, 5, 1, 5)), []int{0, 0}, 5, false},
		{"a job backwards", jobs(job(0, 5, 0, 5)), []int{5, 0}, 10, false},
		{"the last task ends first", jobs(job(0, 50), job(1, 1)), []int{0, 0}, 50, true},
		{"before 0", jobs(job(0, 5)), []int{-1}, 4, false},
		{"all before 0", jobs(job(0, 5), job(1, 2)), []int{-20, -30}, -15, false},
		{"the first start allowed", jobs(job(0, 5)), []int{-api.MaxStart}, 5 - api.MaxStart, false},
		{"the last start allowed", jobs(job(0, 5)), []int{api.MaxStart}, 5 + api.MaxStart, true},
		{"no jobs", nil, nil, 0, true},
		{"no tasks", jobs(job(), job()), []int{}, 0, true},
		{"an empty job between tasks", jobs(job(0, 5), job(), job(0, 5)), []int{5, 0}, 10, true},
		{"the largest shop", full(), []int{0, 50, 100, 150, 200, 250, 300, 350, 400, 450}, 500, true},
	}
	for _, test := range tests {
		end, ok, err := shop.Makespan(test.jobs, test.starts)
		if end != test.makespan || ok != test.feasible || err != api.OK {
			t.Errorf("%s: %d, %t, %d", test.name, end, ok, err)
		}
	}
}

// P6.1
func TestMakespanOfSamples(t *testing.T) {
	r := rand.New(rand.NewSource(1))
	feasible := 0
	for _, jobs := range small(1, 5000) {
		starts := make([]int, len(all(jobs)))
		for i := range starts {
			starts[i] = r.Intn(10) - 1
		}
		_, ok, err := shop.Makespan(jobs, starts)
		if ok != possible(jobs, starts) || err != api.OK {
			t.Fatal(jobs, starts, ok, err)
		}
		if ok {
			feasible++
		}
	}
	if feasible < 500 {
		t.Error("only", feasible, "samples are feasible")
	}
}

// P6.1
func TestMakespanRefuses(t *testing.T) {
	lists := [][]int{
		nil, {0, 3, 0}, {0, 3, 0, 3, 7}, {0, 3, 0, api.MaxStart + 1}, {-api.MaxStart - 1, 3, 0, 3},
		{0, math.MaxInt, 0, 3}, {0, 3, math.MinInt, 3},
	}
	for _, starts := range lists {
		if end, ok, err := shop.Makespan(example, starts); end != 0 || ok || err != api.ErrArg {
			t.Error(starts, end, ok, err)
		}
	}
	if end, ok, err := shop.Makespan(nil, []int{0}); end != 0 || ok || err != api.ErrArg {
		t.Error(end, ok, err)
	}
}

// P6.2
func TestSolve(t *testing.T) {
	tests := []struct {
		name     string
		jobs     [][]api.Task
		starts   []int
		makespan int
	}{
		{"the example", example, []int{0, 3, 0, 3}, 7},
		{"one task", jobs(job(2, 50)), []int{0}, 50},
		{"one job", jobs(job(2, 5, 2, 6, 0, 7)), []int{0, 5, 11}, 18},
		{"first come first", jobs(job(0, 5), job(0, 2)), []int{0, 5}, 7},
		{"but not where it takes longer", jobs(job(0, 5), job(0, 2, 1, 6)), []int{2, 0, 2}, 8},
		{"no tasks", jobs(job(), job()), nil, 0},
		{"no jobs", nil, nil, 0},
		{"an empty job between tasks", jobs(job(1, 2), job(), job(1, 3)), []int{0, 2}, 5},
		{"a machine waits", jobs(job(0, 9), job(1, 1, 0, 1, 1, 9)), []int{2, 0, 1, 2}, 11},
		{"the largest shop", full(), []int{0, 50, 100, 150, 200, 250, 300, 350, 400, 450}, 500},
	}
	for _, test := range tests {
		starts, end, err := shop.Solve(test.jobs)
		if !slices.Equal(starts, test.starts) || end != test.makespan || err != api.OK {
			t.Errorf("%s: %v, %d, %d", test.name, starts, end, err)
		}
	}
}

// P6.3
func TestHeads(t *testing.T) {
	tests := []struct {
		jobs         [][]api.Task
		heads, tails []int
	}{
		{example, []int{0, 3, 0, 2}, []int{2, 0, 4, 0}},
		{jobs(job(0, 1, 1, 2, 2, 3, 3, 4)), []int{0, 1, 3, 6}, []int{9, 7, 4, 0}},
		{jobs(job(0, 1, 0, 2), job(), job(0, 5), job(0, 7, 0, 8)), []int{0, 1, 0, 0, 7}, []int{2, 0, 0, 8, 0}},
		{jobs(job()), nil, nil},
		{nil, nil, nil},
	}
	for _, test := range tests {
		heads, tails, err := shop.Heads(test.jobs)
		if !slices.Equal(heads, test.heads) || !slices.Equal(tails, test.tails) || err != api.OK {
			t.Error(test.jobs, heads, tails, err)
		}
	}
}

// P6.3
func TestHeadsOfSamples(t *testing.T) {
	for _, jobs := range large(2, 300) {
		heads, tails, err := shop.Heads(jobs)
		tasks, before := all(jobs), arcs(jobs)
		if len(heads) != len(tasks) || len(tails) != len(tasks) || err != api.OK {
			t.Fatal(jobs, heads, tails, err)
		}
		for i := range tasks {
			if heads[i] != along(tasks, before, i, -1) || tails[i] != along(tasks, before, i, 1) {
				t.Fatal(jobs, heads, tails)
			}
		}
	}
}

// P6.3
func TestRelax(t *testing.T) {
	tests := []struct {
		name    string
		jobs    [][]api.Task
		machine int
		bound   int
		set     []int
	}{
		{"the example", example, 0, 7, []int{0, 3}},
		{"its other machine", example, 1, 6, []int{2}},
		{"no tasks on the machine", example, 2, 0, nil},
		{"no tasks at all", nil, 3, 0, nil},
		{"one task with all of its job", jobs(job(0, 1, 3, 5, 1, 2)), 3, 8, []int{1}},
		{"a task alone is as much as all", jobs(job(0, 3, 1, 4), job(1, 7)), 1, 11, []int{1, 2}},
		{"the smaller of two sets", jobs(job(0, 2, 1, 4), job(0, 4)), 0, 6, []int{0}},
		{"the first of two tasks", jobs(job(0, 4, 1, 4), job(1, 4, 0, 4)), 0, 8, []int{0}},
		{"the first of two pairs", jobs(job(0, 4, 1, 8), job(0, 4, 1, 8), job(1, 8, 0, 4), job(1, 8, 0, 4)), 0, 16, []int{0, 2}},
		{"the largest shop", full(), 3, 500, []int{0, 1, 2, 3, 4, 5, 6, 7, 8, 9}},
	}
	for _, test := range tests {
		bound, set, err := shop.Relax(test.jobs, test.machine)
		if bound != test.bound || !slices.Equal(set, test.set) || err != api.OK {
			t.Errorf("%s: %d, %v, %d", test.name, bound, set, err)
		}
	}
}

// P6.3
func TestRelaxOfSamples(t *testing.T) {
	for _, jobs := range slices.Concat(large(3, 300), small(3, 300)) {
		for machine := range api.MaxMachine + 1 {
			bound, set := relaxed(jobs, machine)
			found, list, err := shop.Relax(jobs, machine)
			if found != bound || !slices.Equal(list, set) || err != api.OK {
				t.Fatal(jobs, machine, found, list, err)
			}
		}
	}
}

// P6.3
func TestRelaxRefuses(t *testing.T) {
	for _, machine := range []int{-1, api.MaxMachine + 1, math.MinInt, math.MaxInt} {
		if bound, set, err := shop.Relax(example, machine); bound != 0 || len(set) > 0 || err != api.ErrArg {
			t.Error(machine, bound, set, err)
		}
	}
}

// calls are all functions, for a shop, each with arguments that are good and with arguments that are not.
func calls(jobs [][]api.Task) [][]any {
	var results [][]any
	add := func(list ...any) { results = append(results, list) }
	for _, starts := range [][]int{make([]int, len(all(jobs))), {api.MaxStart + 1}} {
		end, ok, err := shop.Makespan(jobs, starts)
		add(end, ok, err)
	}
	starts, end, err := shop.Solve(jobs)
	add(len(starts), end, err)
	heads, tails, err := shop.Heads(jobs)
	add(len(heads), len(tails), err)
	for _, machine := range []int{0, -1} {
		bound, set, err := shop.Relax(jobs, machine)
		add(bound, len(set), err)
	}
	for _, limit := range []int{0, -1} {
		proof, err := shop.Prove(jobs, limit)
		add(len(proof), err)
		for _, count := range []int{0, api.MaxNodes + 1} {
			ok, err := shop.Check(jobs, limit, make([]api.Order, count))
			add(ok, err)
		}
	}
	return results
}

// P6.1, P6.2, P6.3, P6.4, P6.5
func TestShopsThatAreRefused(t *testing.T) {
	long := job(0, 1, 0, 1, 0, 1, 0, 1, 0, 1)
	tests := []struct {
		name string
		jobs [][]api.Task
		err  api.Errno
	}{
		{"five jobs", make([][]api.Task, api.MaxJobs+1), api.ErrLimit},
		{"five tasks of a job", jobs(job(), long), api.ErrLimit},
		{"eleven tasks", jobs(job(0, 1), long[:3], long[:3], long[:4]), api.ErrLimit},
		{"sixteen tasks", jobs(long[:4], long[:4], long[:4], long[:4]), api.ErrLimit},
		{"a machine too many", jobs(job(0, 1), job(4, 1)), api.ErrArg},
		{"a negative machine", jobs(job(-1, 1)), api.ErrArg},
		{"the greatest number as a machine", jobs(job(0, 1, math.MaxInt, 1)), api.ErrArg},
		{"the least number as a machine", jobs(job(0, 1, math.MinInt, 1)), api.ErrArg},
		{"no time", jobs(job(0, 1, 0, 0)), api.ErrArg},
		{"a negative time", jobs(job(0, -1)), api.ErrArg},
		{"a time too long", jobs(job(0, 1), job(0, 50, 0, 51)), api.ErrArg},
		{"the greatest number as a time", jobs(job(0, math.MaxInt)), api.ErrArg},
		{"the least number as a time", jobs(job(0, math.MinInt)), api.ErrArg},
		{"a bad task before a job too long", jobs(job(4, 0), long), api.ErrLimit},
		{"a bad task before a job too many", jobs(job(4, 0), job(), job(), job(), job()), api.ErrLimit},
		{"a bad task among eleven", jobs(job(0, 0), long[:3], long[:3], long[:4]), api.ErrLimit},
	}
	for _, test := range tests {
		for i, result := range calls(test.jobs) {
			last := len(result) - 1
			for _, value := range result[:last] {
				if !reflect.ValueOf(value).IsZero() {
					t.Errorf("%s: call %d: %v", test.name, i, result)
				}
			}
			if result[last] != test.err {
				t.Errorf("%s: call %d: %v", test.name, i, result)
			}
		}
	}
}

// P6.2, P6.3: no call changes its arguments, and what it returns is nobody else's.
func TestMemory(t *testing.T) {
	given := clone(example)
	starts := []int{0, 3, 0, 3}
	need(shop.Check(given, 6, need(shop.Prove(given, 6))))
	for range 2 {
		if _, ok, _ := shop.Makespan(given, starts); !ok {
			t.Error("not feasible")
		}
		first, _ := solved(given)
		heads, tails, _ := shop.Heads(given)
		_, set, _ := shop.Relax(given, 0)
		lists := [][]int{first, heads, tails, set}
		if !reflect.DeepEqual(lists, [][]int{{0, 3, 0, 3}, {0, 3, 0, 2}, {2, 0, 4, 0}, {0, 3}}) {
			t.Error(lists)
		}
		for _, list := range lists {
			list[0], list[1] = -1, -1
		}
	}
	if !reflect.DeepEqual(given, example) || !slices.Equal(starts, []int{0, 3, 0, 3}) {
		t.Error("arguments changed", given, starts)
	}
}
