package shop_test

import (
	"cmp"
	"math/rand"
	"slices"

	"tinplate/api"
	"tinplate/shop"
)

// What the tests compute on their own, each thing in another way than the package: overlaps by units of time, shortest
// schedules by all starts or by all sequences of the machines, heads in an order by all its chains.

// need is the value of a call that must succeed.
func need[T any](value T, err api.Errno) T {
	if err != api.OK {
		panic(err)
	}
	return value
}

func solved(jobs [][]api.Task) ([]int, int) {
	starts, makespan, err := shop.Solve(jobs)
	need(0, err)
	return starts, makespan
}

func makespan(jobs [][]api.Task) int {
	_, makespan := solved(jobs)
	return makespan
}

func clone(jobs [][]api.Task) [][]api.Task {
	var list [][]api.Task
	for _, job := range jobs {
		list = append(list, slices.Clone(job))
	}
	return list
}

// job is a job with these machines and times, in turn.
func job(numbers ...int) []api.Task {
	var list []api.Task
	for pair := range slices.Chunk(numbers, 2) {
		list = append(list, api.Task{Machine: pair[0], Time: pair[1]})
	}
	return list
}

func jobs(list ...[]api.Task) [][]api.Task { return list }

// example is the shop of the chapter's examples.
var example = jobs(job(0, 3, 1, 2), job(1, 2, 0, 4))

func all(jobs [][]api.Task) []api.Task { return slices.Concat(jobs...) }

// arcs are the pairs of tasks of which one is the next one of its job after the other.
func arcs(jobs [][]api.Task) [][2]int {
	var list [][2]int
	number := 0
	for _, job := range jobs {
		for i := range job {
			if i > 0 {
				list = append(list, [2]int{number - 1, number})
			}
			number++
		}
	}
	return list
}

// possible reports whether a schedule of the first tasks is feasible, by what each machine does in each unit of time.
func possible(jobs [][]api.Task, starts []int) bool {
	tasks := all(jobs)
	busy := map[[2]int]bool{}
	for i, start := range starts {
		if start < 0 {
			return false
		}
		for unit := range tasks[i].Time {
			slot := [2]int{tasks[i].Machine, start + unit}
			if busy[slot] {
				return false
			}
			busy[slot] = true
		}
	}
	for _, arc := range arcs(jobs) {
		if arc[1] < len(starts) && starts[arc[1]] < starts[arc[0]]+tasks[arc[0]].Time {
			return false
		}
	}
	return true
}

// within is the first feasible schedule, of all, that begins with these starts and ends by the limit.
func within(jobs [][]api.Task, starts []int, limit int) ([]int, bool) {
	tasks := all(jobs)
	if len(starts) == len(tasks) {
		return starts, true
	}
	for start := 0; start+tasks[len(starts)].Time <= limit; start++ {
		longer := append(slices.Clone(starts), start)
		if !possible(jobs, longer) {
			continue
		}
		if whole, ok := within(jobs, longer, limit); ok {
			return whole, true
		}
	}
	return nil, false
}

// first is the first of the shortest schedules, by all starts, and its makespan.
func first(jobs [][]api.Task) ([]int, int) {
	for limit := 0; ; limit++ {
		if starts, ok := within(jobs, nil, limit); ok {
			return starts, limit
		}
	}
}

// sequenced is the first of the shortest schedules, by all sequences of the tasks of each machine, and its makespan.
func sequenced(jobs [][]api.Task) ([]int, int) {
	tasks := all(jobs)
	var best []int
	least := -1
	var choose func(machine int, before [][2]int)
	choose = func(machine int, before [][2]int) {
		if machine > api.MaxMachine {
			starts, end, ok := earliest(tasks, before)
			if ok && (least < 0 || end < least || end == least && slices.Compare(starts, best) < 0) {
				best, least = starts, end
			}
			return
		}
		for sequence := range permutations(on(tasks, machine)) {
			longer := slices.Clone(before)
			for i := range len(sequence) - 1 {
				longer = append(longer, [2]int{sequence[i], sequence[i+1]})
			}
			choose(machine+1, longer)
		}
	}
	choose(0, arcs(jobs))
	return best, least
}

// earliest is the schedule in which each task starts as early as these pairs allow: false if there is none.
func earliest(tasks []api.Task, before [][2]int) (starts []int, end int, ok bool) {
	starts = make([]int, len(tasks))
	for range len(tasks) + 1 {
		ok = true
		for _, pair := range before {
			if ready := starts[pair[0]] + tasks[pair[0]].Time; starts[pair[1]] < ready {
				starts[pair[1]], ok = ready, false
			}
		}
	}
	for i, t := range tasks {
		end = max(end, starts[i]+t.Time)
	}
	return starts, end, ok
}

func on(tasks []api.Task, machine int) []int {
	var list []int
	for i, t := range tasks {
		if t.Machine == machine {
			list = append(list, i)
		}
	}
	return list
}

func permutations(list []int) func(func([]int) bool) {
	return func(yield func([]int) bool) {
		var extend func(done, left []int) bool
		extend = func(done, left []int) bool {
			if len(left) == 0 {
				return yield(slices.Clone(done))
			}
			for i := range left {
				rest := slices.Delete(slices.Clone(left), i, i+1)
				if !extend(append(slices.Clone(done), left[i]), rest) {
					return false
				}
			}
			return true
		}
		extend(nil, list)
	}
}

// relaxed is what Relax must return, by all subsets in the order in which they are preferred.
func relaxed(jobs [][]api.Task, machine int) (int, []int) {
	type candidate struct {
		bound int
		set   []int
	}
	tasks, before := all(jobs), arcs(jobs)
	list := on(tasks, machine)
	var candidates []candidate
	for mask := 1; mask < 1<<len(list); mask++ {
		var set, heads, tails []int
		time := 0
		for i, task := range list {
			if mask>>i&1 == 1 {
				set = append(set, task)
				heads = append(heads, along(tasks, before, task, -1))
				tails = append(tails, along(tasks, before, task, 1))
				time += tasks[task].Time
			}
		}
		candidates = append(candidates, candidate{slices.Min(heads) + time + slices.Min(tails), set})
	}
	if len(candidates) == 0 {
		return 0, nil
	}
	best := slices.MinFunc(candidates, func(a, b candidate) int {
		return cmp.Or(cmp.Compare(b.bound, a.bound), cmp.Compare(len(a.set), len(b.set)), slices.Compare(a.set, b.set))
	})
	return best.bound, best.set
}

// along is the greatest sum of times of a chain that begins after a task, or, backwards, that ends before it. There must
// be no cycle.
func along(tasks []api.Task, before [][2]int, task, direction int) int {
	greatest := 0
	for _, pair := range before {
		from, to := pair[0], pair[1]
		if direction < 0 {
			from, to = to, from
		}
		if from == task {
			greatest = max(greatest, tasks[to].Time+along(tasks, before, to, direction))
		}
	}
	return greatest
}

// cyclic reports whether a task comes before itself: whether tasks are left when all that nothing precedes are taken away.
func cyclic(count int, before [][2]int) bool {
	gone := make([]bool, count)
	for range count {
		for task := range count {
			blocked := func(pair [2]int) bool { return pair[1] == task && !gone[pair[0]] }
			gone[task] = gone[task] || !slices.ContainsFunc(before, blocked)
		}
	}
	return slices.Contains(gone, false)
}

// accepted is what Check must say, by the list of all pairs that are known at a node.
func accepted(jobs [][]api.Task, limit int, proof []api.Order) bool {
	rest, ok := read(all(jobs), limit, proof, arcs(jobs))
	return ok && len(rest) == 0
}

// read reads one tree, and returns the nodes after it.
func read(tasks []api.Task, limit int, proof []api.Order, before [][2]int) ([]api.Order, bool) {
	if len(proof) == 0 {
		return nil, false
	}
	node, rest := proof[0], proof[1:]
	if node.Kind != api.OrderSplit {
		return rest, goodLeaf(tasks, limit, node, before)
	}
	if !differ(tasks, []int{node.A, node.B}) {
		return nil, false
	}
	rest, ok := read(tasks, limit, rest, append(slices.Clone(before), [2]int{node.A, node.B}))
	if !ok {
		return nil, false
	}
	return read(tasks, limit, rest, append(slices.Clone(before), [2]int{node.B, node.A}))
}

func goodLeaf(tasks []api.Task, limit int, node api.Order, before [][2]int) bool {
	time, heads, tails := 0, []int{}, []int{}
	for i, task := range node.Tasks {
		if task < 0 || task >= len(tasks) {
			return false
		}
		if node.Kind == api.OrderChain && i > 0 && !slices.Contains(before, [2]int{node.Tasks[i-1], task}) {
			return false
		}
		time += tasks[task].Time
	}
	switch {
	case len(node.Tasks) == 0:
		return false
	case node.Kind == api.OrderChain:
		different := slices.Compact(slices.Sorted(slices.Values(node.Tasks)))
		return time > limit || len(different) < len(node.Tasks)
	case node.Kind != api.OrderSet || !differ(tasks, node.Tasks) || cyclic(len(tasks), before):
		return false
	}
	for _, task := range node.Tasks {
		heads = append(heads, along(tasks, before, task, -1))
		tails = append(tails, along(tasks, before, task, 1))
	}
	return slices.Min(heads)+time+slices.Min(tails) > limit
}

// differ reports whether these are different tasks of one machine.
func differ(tasks []api.Task, list []int) bool {
	machines := map[int]bool{}
	for _, task := range list {
		if task < 0 || task >= len(tasks) {
			return false
		}
		machines[tasks[task].Machine] = true
	}
	different := slices.Compact(slices.Sorted(slices.Values(list)))
	return len(machines) == 1 && len(different) == len(list)
}

// sample makes a shop with jobs of these lengths, on so many machines, with times up to a limit.
func sample(r *rand.Rand, lengths []int, machines, time int) [][]api.Task {
	var list [][]api.Task
	for _, length := range lengths {
		var tasks []api.Task
		for range length {
			tasks = append(tasks, api.Task{Machine: r.Intn(machines), Time: 1 + r.Intn(time)})
		}
		list = append(list, tasks)
	}
	return list
}

// small makes shops of at most five short tasks.
func small(seed int64, count int) [][][]api.Task {
	r := rand.New(rand.NewSource(seed))
	shapes := [][]int{{1, 1}, {2, 1}, {2, 2}, {1, 1, 1}, {2, 1, 1}, {3, 2}, {1, 2, 2}, {4}, {1, 0, 3}, {1, 1, 1, 2}}
	var list [][][]api.Task
	for range count {
		list = append(list, sample(r, shapes[r.Intn(len(shapes))], 1+r.Intn(3), 3))
	}
	return list
}

// large makes shops of up to ten tasks.
func large(seed int64, count int) [][][]api.Task {
	r := rand.New(rand.NewSource(seed))
	shapes := [][]int{{3, 3, 2, 2}, {4, 3, 2, 1}, {4, 4, 2}, {2, 4, 0, 4}, {3, 3, 3}, {2, 2, 2, 2}, {1, 3, 4}}
	var list [][][]api.Task
	for range count {
		list = append(list, sample(r, shapes[r.Intn(len(shapes))], 2+r.Intn(3), 1+r.Intn(50)))
	}
	return list
}

// fewSequences reports whether all sequences of a shop's machines can be gone through.
func fewSequences(jobs [][]api.Task) bool {
	ways := 1
	for machine := range api.MaxMachine + 1 {
		for i := range on(all(jobs), machine) {
			ways *= i + 1
		}
	}
	return ways <= 3000
}

// full is the largest shop: ten tasks of four jobs, with the greatest machine and time.
func full() [][]api.Task {
	return jobs(job(3, 50, 3, 50, 3, 50, 3, 50), job(3, 50, 3, 50, 3, 50), job(3, 50, 3, 50), job(3, 50))
}
