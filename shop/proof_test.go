package shop_test

import (
	"math"
	"math/rand"
	"reflect"
	"slices"
	"testing"

	"tinplate/api"
	"tinplate/shop"
)

func split(a, b int) api.Order { return api.Order{Kind: api.OrderSplit, A: a, B: b} }

func chain(tasks ...int) api.Order { return api.Order{Kind: api.OrderChain, Tasks: tasks} }

func set(tasks ...int) api.Order { return api.Order{Kind: api.OrderSet, Tasks: tasks} }

func tree(nodes ...api.Order) []api.Order { return nodes }

type check struct {
	name  string
	jobs  [][]api.Task
	limit int
	proof []api.Order
	good  bool
}

func runChecks(t *testing.T, checks []check) {
	for _, c := range checks {
		before := copies(c.proof)
		ok, err := shop.Check(c.jobs, c.limit, c.proof)
		if ok != c.good || err != api.OK {
			t.Errorf("%s: %t, %d", c.name, ok, err)
		}
		if ok != accepted(c.jobs, c.limit, c.proof) {
			t.Errorf("%s: the reference differs", c.name)
		}
		if !reflect.DeepEqual(c.proof, before) {
			t.Errorf("%s: the proof was changed", c.name)
		}
	}
}

func copies(proof []api.Order) []api.Order {
	list := slices.Clone(proof)
	for i := range list {
		list[i].Tasks = slices.Clone(list[i].Tasks)
	}
	return list
}

// P6.4
func TestCheckChain(t *testing.T) {
	runChecks(t, []check{
		{"a job is too long", example, 5, tree(chain(2, 3)), true},
		{"not above the limit", example, 6, tree(chain(2, 3)), false},
		{"the start of a job", example, 2, tree(chain(0)), true},
		{"the end of a job", example, 3, tree(chain(3)), true},
		{"a task as long as the limit", example, 4, tree(chain(3)), false},
		{"no task", example, 0, tree(chain()), false},
		{"backwards", example, 0, tree(chain(1, 0)), false},
		{"from job to job", example, 0, tree(chain(1, 2)), false},
		{"not directly", jobs(job(0, 5, 1, 5, 0, 5)), 0, tree(chain(0, 2)), false},
		{"a task twice in turn", example, 0, tree(chain(0, 0)), false},
		{"a number too great", example, 0, tree(chain(4)), false},
		{"a number too great at the end", example, 0, tree(chain(2, 3, 4)), false},
		{"a negative number", example, 0, tree(chain(-1)), false},
		{"the least number", example, 0, tree(chain(0, math.MinInt)), false},
		{"the greatest number", example, 0, tree(chain(math.MaxInt, 0)), false},
		{"other fields play no part", example, 5, tree(api.Order{Kind: 1, A: -7, B: 99, Tasks: []int{2, 3}}), true},
		{"no shop", nil, 0, tree(chain(0)), false},
	})
}

// P6.4
func TestCheckSet(t *testing.T) {
	inner := jobs(job(1, 2, 0, 3, 1, 4), job(1, 5, 0, 6, 1, 1))
	runChecks(t, []check{
		{"two tasks of the example", example, 6, tree(set(0, 3)), true},
		{"in any order", example, 6, tree(set(3, 0)), true},
		{"not above the limit", example, 7, tree(set(0, 3)), false},
		{"one task", example, 5, tree(set(3)), true},
		{"one task as long as the limit", example, 6, tree(set(3)), false},
		{"the least head and the least tail", inner, 11, tree(set(1, 4)), true},
		{"and no more", inner, 12, tree(set(1, 4)), false},
		{"no task", example, 0, tree(set()), false},
		{"two machines", example, 0, tree(set(0, 1)), false},
		{"a task twice", example, 0, tree(set(0, 3, 0)), false},
		{"a task twice in turn", example, 0, tree(set(3, 3)), false},
		{"a number too great", example, 0, tree(set(4)), false},
		{"a number too great among others", example, 0, tree(set(0, 4)), false},
		{"a negative number", example, 0, tree(set(-1, 0)), false},
		{"the least and the greatest number", example, 0, tree(set(math.MinInt, math.MaxInt)), false},
		{"all tasks of the largest shop", full(), 499, tree(set(9, 8, 7, 6, 5, 4, 3, 2, 1, 0)), true},
		{"but not at its makespan", full(), 500, tree(set(9, 8, 7, 6, 5, 4, 3, 2, 1, 0)), false},
		{"more numbers than tasks", full(), 0, tree(set(0, 1, 2, 3, 4, 5, 6, 7, 8, 9, 0)), false},
		{"other fields play no part", example, 6, tree(api.Order{Kind: 2, A: 99, B: -7, Tasks: []int{0, 3}}), true},
		{"no shop", nil, 0, tree(set(0)), false},
	})
}

// P6.4
func TestCheckTree(t *testing.T) {
	pair := jobs(job(0, 5), job(0, 6), job(1, 1))
	both := tree(split(0, 1), chain(0, 1), chain(1, 0))
	runChecks(t, []check{
		{"one way, then the other", pair, 10, both, true},
		{"not above the limit", pair, 11, both, false},
		{"the other way first", pair, 10, tree(split(0, 1), chain(1, 0), chain(0, 1)), false},
		{"turned round", pair, 10, tree(split(1, 0), chain(1, 0), chain(0, 1)), true},
		{"the second leaf is bad", pair, 10, tree(split(0, 1), chain(0, 1), chain(1)), false},
		{"the first leaf is bad", pair, 10, tree(split(0, 1), chain(0), chain(1, 0)), false},
		{"no node", pair, 0, nil, false},
		{"no node of a shop without tasks", nil, 0, tree(), false},
		{"a split alone", pair, 0, tree(split(0, 1)), false},
		{"a leaf less", pair, 0, tree(split(0, 1), chain(0)), false},
		{"a leaf more", pair, 0, append(slices.Clone(both), chain(0)), false},
		{"a leaf after a leaf", pair, 0, tree(chain(0), chain(0)), false},
		{"a split after the end", pair, 0, append(slices.Clone(both), split(0, 1)), false},
		{"two machines", pair, 0, tree(split(0, 2), chain(0), chain(0)), false},
		{"one task", pair, 0, tree(split(1, 1), chain(0), chain(0)), false},
		{"a number too great", pair, 0, tree(split(0, 3), chain(0), chain(0)), false},
		{"the first number too great", pair, 0, tree(split(math.MaxInt, 0), chain(0), chain(0)), false},
		{"a negative number", pair, 0, tree(split(-1, 0), chain(0), chain(0)), false},
		{"the least number", pair, 0, tree(split(0, math.MinInt), chain(0), chain(0)), false},
		{"another kind", pair, 0, tree(api.Order{Kind: 3, Tasks: []int{0}}), false},
		{"a negative kind", pair, 0, tree(api.Order{Kind: -1, Tasks: []int{0}}), false},
		{"the greatest kind", pair, 0, tree(api.Order{Kind: math.MaxInt, Tasks: []int{0}}), false},
		{"other fields play no part", pair, 10, tree(api.Order{A: 0, B: 1, Tasks: []int{99}}, chain(0, 1), chain(1, 0)), true},
		{"a pair split twice", pair, 10, tree(split(0, 1), split(0, 1), chain(0, 1), chain(0, 1, 0), chain(1, 0)), true},
		{"sets below a split", pair, 10, tree(split(0, 1), set(0, 1), set(1)), true},
		{"a split counts in its own trees only", pair, 5, tree(split(0, 1), chain(0, 1), chain(0, 1)), false},
	})
}

// P6.4: heads, tails and cycles in the order at a node.
func TestCheckOrder(t *testing.T) {
	same := jobs(job(0, 5, 0, 6), job(0, 1))
	long := jobs(job(0, 5, 1, 7), job(0, 6, 1, 1))
	runChecks(t, []check{
		{"a chain with a task twice is good", same, 10, tree(split(1, 0), chain(1, 0, 1), set(0, 1)), true},
		{"from whichever task on", same, 10, tree(split(1, 0), chain(0, 1, 0), set(0, 1)), true},
		{"or with all tasks more than twice", same, 10, tree(split(1, 0), chain(1, 0, 1, 0, 1, 0), set(0, 1)), true},
		{"or, where there is a cycle, above the limit", same, 10, tree(split(1, 0), chain(0, 1), set(0, 1)), true},
		{"a task twice above no limit at all", same, api.MaxStart, tree(split(1, 0), chain(1, 0, 1), set(0, 1)), false},
		{"a set with a cycle", same, 0, tree(split(1, 0), set(0, 1), set(0, 1)), false},
		{"a set beside a cycle", same, 0, tree(split(1, 0), set(2), set(0)), false},
		{"a cycle of three", same, 0, tree(split(1, 2), split(2, 0), chain(0, 1, 2, 0), set(0), set(0)), true},
		{"a set with a cycle of three", same, 0, tree(split(1, 2), split(2, 0), set(0), set(0), set(0)), false},
		{"a head through a split", long, 11, tree(split(0, 2), set(3), chain(2, 0, 1)), true},
		{"and no more", long, 12, tree(split(0, 2), set(3), chain(2, 0, 1)), false},
		{"the greater of two heads", long, 12, tree(split(1, 3), set(3), chain(2, 3, 1)), true},
		{"and no more than it", long, 13, tree(split(1, 3), set(3), chain(2, 3, 1)), false},
		{"a tail through a split", long, 11, tree(split(2, 0), set(2), chain(0, 1)), true},
		{"the least tail of two tasks", long, 11, tree(split(2, 0), set(2), set(0, 2)), true},
		{"and no more than it", long, 12, tree(split(2, 0), set(2), set(0, 2)), false},
		{"a chain of the other tree", long, 0, tree(split(0, 2), chain(0, 2), chain(0, 2)), false},
	})
}

// P6.4
func TestCheckRefuses(t *testing.T) {
	good := tree(set(0, 3))
	most := slices.Repeat(good, api.MaxNodes)
	over := slices.Repeat(good, api.MaxNodes+1)
	tests := []struct {
		name  string
		limit int
		proof []api.Order
		good  bool
		err   api.Errno
	}{
		{"the least limit", 0, good, true, api.OK},
		{"the greatest limit", api.MaxStart, good, false, api.OK},
		{"a negative limit", -1, good, false, api.ErrArg},
		{"a limit too great", api.MaxStart + 1, good, false, api.ErrArg},
		{"the least number", math.MinInt, good, false, api.ErrArg},
		{"the greatest number", math.MaxInt, good, false, api.ErrArg},
		{"as many nodes as allowed", 6, most, false, api.OK},
		{"a node too many", 6, over, false, api.ErrLimit},
		{"a bad limit and a node too many", -1, over, false, api.ErrArg},
	}
	for _, test := range tests {
		if ok, err := shop.Check(example, test.limit, test.proof); ok != test.good || err != test.err {
			t.Errorf("%s: %t, %d", test.name, ok, err)
		}
	}
}

// P6.4: a proof of as many nodes as are allowed, as deep as can be.
func TestCheckDeepProof(t *testing.T) {
	pair := jobs(job(0, 5), job(0, 6))
	var proof []api.Order
	for range api.MaxNodes / 2 {
		proof = append(proof, split(0, 1), chain(0, 1))
	}
	proof = append(proof, chain(1, 0))
	if ok, err := shop.Check(pair, 10, proof); len(proof) != api.MaxNodes || !ok || err != api.OK {
		t.Error(len(proof), ok, err)
	}
	proof[len(proof)-1] = chain(0, 1)
	if ok, err := shop.Check(pair, 10, proof); ok || err != api.OK {
		t.Error(ok, err)
	}
	for i := range proof {
		proof[i] = split(0, 1)
	}
	if ok, err := shop.Check(pair, 10, proof); ok || err != api.OK {
		t.Error(ok, err)
	}
	if ok, err := shop.Check(pair, 10, tree(chain(slices.Repeat([]int{0, 1}, 1<<20)...))); ok || err != api.OK {
		t.Error(ok, err)
	}
}

// someTree makes a tree for an order: mostly a good one, down to a depth.
func someTree(r *rand.Rand, jobs [][]api.Task, before [][2]int, depth int) []api.Order {
	count := len(all(jobs))
	if depth == 0 || r.Intn(4) == 0 {
		if r.Intn(3) == 0 {
			tasks := on(all(jobs), all(jobs)[r.Intn(count)].Machine)
			r.Shuffle(len(tasks), func(i, j int) { tasks[i], tasks[j] = tasks[j], tasks[i] })
			return tree(set(tasks[r.Intn(len(tasks)):]...))
		}
		walk := []int{r.Intn(count)}
		for range r.Intn(7) {
			for _, k := range r.Perm(len(before)) {
				if before[k][0] == walk[len(walk)-1] {
					walk = append(walk, before[k][1])
					break
				}
			}
		}
		return tree(chain(walk...))
	}
	same := on(all(jobs), all(jobs)[r.Intn(count)].Machine)
	a, b := same[r.Intn(len(same))], same[r.Intn(len(same))]
	if a == b && r.Intn(10) > 0 {
		return someTree(r, jobs, before, depth-1)
	}
	left := someTree(r, jobs, append(slices.Clone(before), [2]int{a, b}), depth-1)
	right := someTree(r, jobs, append(slices.Clone(before), [2]int{b, a}), depth-1)
	return slices.Concat(tree(split(a, b)), left, right)
}

// P6.4
func TestCheckOfSamples(t *testing.T) {
	r := rand.New(rand.NewSource(4))
	good, deep := 0, 0
	for _, jobs := range small(4, 20000) {
		proof := someTree(r, jobs, arcs(jobs), r.Intn(4))
		limit := r.Intn(8)
		ok, err := shop.Check(jobs, limit, proof)
		if ok != accepted(jobs, limit, proof) || err != api.OK {
			t.Fatal(jobs, limit, proof, ok, err)
		}
		if ok {
			good++
		}
		if ok && len(proof) > 3 {
			deep++
		}
	}
	if good < 1000 || deep < 100 {
		t.Error(good, deep)
	}
}

// P6.5
func TestProve(t *testing.T) {
	tests := []struct {
		name  string
		jobs  [][]api.Task
		limit int
		err   api.Errno
	}{
		{"the example", example, 6, api.OK},
		{"its least limit", example, 0, api.OK},
		{"its makespan", example, 7, api.ErrPlan},
		{"the greatest limit", example, api.MaxStart, api.ErrPlan},
		{"a negative limit", example, -1, api.ErrArg},
		{"a limit too great", example, api.MaxStart + 1, api.ErrArg},
		{"the least number", example, math.MinInt, api.ErrArg},
		{"the greatest number", example, math.MaxInt, api.ErrArg},
		{"no jobs", nil, 0, api.ErrPlan},
		{"no tasks", jobs(job(), job()), 0, api.ErrPlan},
		{"no tasks and a negative limit", jobs(job(), job()), -1, api.ErrArg},
		{"one task", jobs(job(3, 50)), 49, api.OK},
		{"one task's makespan", jobs(job(3, 50)), 50, api.ErrPlan},
		{"the largest shop", full(), 499, api.OK},
		{"the largest shop's makespan", full(), 500, api.ErrPlan},
	}
	for _, test := range tests {
		proof, err := shop.Prove(test.jobs, test.limit)
		if err != test.err || len(proof) > 0 != (err == api.OK) {
			t.Errorf("%s: %v, %d", test.name, proof, err)
		}
		if err == api.OK && !accepted(test.jobs, test.limit, proof) {
			t.Errorf("%s: %v", test.name, proof)
		}
	}
}

// P6.5
func TestProveExample(t *testing.T) {
	if proof := need(shop.Prove(example, 6)); !reflect.DeepEqual(proof, tree(set(0, 3))) {
		t.Error(proof)
	}
}

// P6.5: a field that plays no part is zero, and the lists of a proof are each other's memory in no part.
func TestProofFields(t *testing.T) {
	for _, jobs := range large(5, 200) {
		proof := need(shop.Prove(jobs, makespan(jobs)-1))
		for i, node := range proof {
			if node.Kind == api.OrderSplit && node.Tasks != nil || node.Kind != api.OrderSplit && (node.A != 0 || node.B != 0) {
				t.Fatal(node)
			}
			for _, other := range proof[:i] {
				if len(node.Tasks) > 0 && len(other.Tasks) > 0 && &node.Tasks[0] == &other.Tasks[0] {
					t.Fatal("shared")
				}
			}
		}
		kept := copies(proof)
		for _, node := range proof {
			for i := range node.Tasks {
				node.Tasks[i] = -1
			}
		}
		if again := need(shop.Prove(jobs, makespan(jobs)-1)); !reflect.DeepEqual(again, kept) {
			t.Fatal(again, kept)
		}
	}
}

// P6.5: it is no matter which proof it is, but the bounds of its leaves are of use.
func TestProofsAreShort(t *testing.T) {
	longest := 0
	for _, jobs := range large(6, 300) {
		longest = max(longest, len(need(shop.Prove(jobs, makespan(jobs)-1))))
	}
	if longest > 200 {
		t.Error(longest)
	}
}
