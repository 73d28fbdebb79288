package shop_test

import (
	"fmt"
	"math/rand"
	"slices"
	"testing"

	"tinplate/api"
	"tinplate/shop"
)

// P6.2, P6.6
func TestLeastOfAllSchedules(t *testing.T) {
	for _, jobs := range small(10, 600) {
		starts, end := solved(jobs)
		if list, least := first(jobs); !slices.Equal(starts, list) || end != least {
			t.Fatal(jobs, starts, end, list, least)
		}
	}
}

// P6.2, P6.6
func TestLeastOfAllSequences(t *testing.T) {
	count := 0
	for _, jobs := range large(11, 400) {
		starts, end := solved(jobs)
		found, ok, err := shop.Makespan(jobs, starts)
		if found != end || !ok || err != api.OK {
			t.Fatal(jobs, starts, end, found, ok, err)
		}
		if !fewSequences(jobs) {
			continue
		}
		count++
		if list, least := sequenced(jobs); !slices.Equal(starts, list) || end != least {
			t.Fatal(jobs, starts, end, list, least)
		}
	}
	if count < 100 {
		t.Error(count)
	}
}

// P6.7
func TestProofsAreSound(t *testing.T) {
	r := rand.New(rand.NewSource(12))
	refused := 0
	for _, jobs := range small(12, 4000) {
		_, least := solved(jobs)
		proof := someTree(r, jobs, arcs(jobs), r.Intn(5))
		for limit := least + 3; limit >= least; limit-- {
			if need(shop.Check(jobs, limit, proof)) {
				t.Fatal(jobs, limit, proof)
			}
		}
		if need(shop.Check(jobs, least-1, proof)) {
			refused++
		}
	}
	if refused < 100 {
		t.Error(refused)
	}
}

// P6.7: a good proof that is changed a little is either still good, or is not accepted.
func TestChangedProofs(t *testing.T) {
	r := rand.New(rand.NewSource(13))
	for _, jobs := range large(13, 150) {
		least := makespan(jobs)
		proof := need(shop.Prove(jobs, least-1))
		for range 20 {
			changed := copies(proof)
			node := &changed[r.Intn(len(changed))]
			switch r.Intn(4) {
			case 0:
				node.Kind = r.Intn(3)
			case 1:
				node.A, node.B = node.B, node.A
			case 2:
				node.Tasks = append(node.Tasks, r.Intn(len(all(jobs))))
			case 3:
				node.Tasks = node.Tasks[:len(node.Tasks)/2]
			}
			if need(shop.Check(jobs, least-1, changed)) != accepted(jobs, least-1, changed) {
				t.Fatal(jobs, changed)
			}
			if need(shop.Check(jobs, least, changed)) {
				t.Fatal(jobs, changed)
			}
		}
	}
}

// P6.5, P6.7
func TestProofsAreComplete(t *testing.T) {
	for _, jobs := range slices.Concat(small(14, 200), large(14, 60)) {
		least := makespan(jobs)
		for limit := range least + 5 {
			proof, err := shop.Prove(jobs, limit)
			if limit >= least {
				if len(proof) > 0 || err != api.ErrPlan {
					t.Fatal(jobs, limit, proof, err)
				}
				continue
			}
			if err != api.OK || len(proof) > api.MaxNodes {
				t.Fatal(jobs, limit, len(proof), err)
			}
			if !need(shop.Check(jobs, limit, proof)) || !accepted(jobs, limit, proof) {
				t.Fatal(jobs, limit, proof)
			}
		}
	}
}

// A moment is a time, and how long each task takes from then on.
type moment struct {
	time int
	left [api.MaxAll]int
}

// A machine's tasks are those of the list; what they wait for are numbers.
type alone struct {
	list         []int
	heads, tails [api.MaxAll]int
	known        map[moment]int
}

// interrupted is the least makespan of a machine's tasks that may be interrupted, by what the machine may do in each unit
// of time: wait, if there is something to wait for, or any task that it may do.
func interrupted(jobs [][]api.Task, machine int) int {
	tasks, before := all(jobs), arcs(jobs)
	a := alone{list: on(tasks, machine), known: map[moment]int{}}
	var begin moment
	for _, task := range a.list {
		a.heads[task] = along(tasks, before, task, -1)
		a.tails[task] = along(tasks, before, task, 1)
		begin.left[task] = tasks[task].Time
	}
	return a.from(begin)
}

func (a *alone) from(m moment) int {
	if end, ok := a.known[m]; ok {
		return end
	}
	var ends []int
	waits := false
	for _, task := range a.list {
		if m.left[task] == 0 {
			continue
		}
		if a.heads[task] > m.time {
			waits = true
			continue
		}
		next, end := m, 0
		next.time++
		next.left[task]--
		if next.left[task] == 0 {
			end = next.time + a.tails[task]
		}
		ends = append(ends, max(end, a.from(next)))
	}
	if waits {
		ends = append(ends, a.from(moment{m.time + 1, m.left}))
	}
	least := 0
	if len(ends) > 0 {
		least = slices.Min(ends)
	}
	a.known[m] = least
	return least
}

// P6.8
func TestRelaxIsTheLeastWithInterruptions(t *testing.T) {
	r := rand.New(rand.NewSource(15))
	shops := small(15, 300)
	for range 40 {
		shops = append(shops, sample(r, []int{2, 2, 1, 1}, 1+r.Intn(2), 3), sample(r, []int{3, 3, 1}, 2, 3))
		shops = append(shops, sample(r, []int{3, 3, 2, 2}, 4, 5))
	}
	for _, jobs := range shops {
		for machine := range api.MaxMachine + 1 {
			bound, _, err := shop.Relax(jobs, machine)
			if least := interrupted(jobs, machine); bound != least || err != api.OK {
				t.Fatal(jobs, machine, bound, least, err)
			}
		}
	}
}

// P6.8
func TestRelaxIsABound(t *testing.T) {
	for _, jobs := range large(16, 200) {
		least := makespan(jobs)
		for machine := range api.MaxMachine + 1 {
			if bound, _, err := shop.Relax(jobs, machine); bound > least || err != api.OK {
				t.Fatal(jobs, machine, bound, least, err)
			}
		}
	}
}

// P6.9
func TestMotions(t *testing.T) {
	r := rand.New(rand.NewSource(17))
	for _, jobs := range large(17, 100) {
		least := makespan(jobs)
		motions := [][][]api.Task{clone(jobs), clone(jobs), clone(jobs)}
		r.Shuffle(len(jobs), func(i, j int) { motions[0][i], motions[0][j] = motions[0][j], motions[0][i] })
		names := r.Perm(api.MaxMachine + 1)
		for i, job := range jobs {
			slices.Reverse(motions[1][i])
			for k, task := range job {
				motions[2][i][k].Machine = names[task.Machine]
			}
		}
		for i, moved := range motions {
			if end := makespan(moved); end != least {
				t.Fatal(i, jobs, least, moved, end)
			}
		}
	}
}

// P6.9
func TestLessWork(t *testing.T) {
	r := rand.New(rand.NewSource(18))
	for _, jobs := range large(18, 60) {
		least := makespan(jobs)
		for i, job := range jobs {
			if end := makespan(slices.Delete(clone(jobs), i, i+1)); end > least {
				t.Fatal(jobs, i, least, end)
			}
			for k, task := range job {
				shorter := clone(jobs)
				shorter[i][k].Time = 1 + r.Intn(task.Time)
				if end := makespan(shorter); end > least {
					t.Fatal(jobs, shorter, least, end)
				}
			}
		}
	}
}

// P2
func TestSameAgain(t *testing.T) {
	for _, jobs := range large(19, 50) {
		least := makespan(jobs)
		proof := need(shop.Prove(jobs, least-1))
		for range 3 {
			if again := need(shop.Prove(clone(jobs), least-1)); fmt.Sprint(again) != fmt.Sprint(proof) {
				t.Fatal(jobs)
			}
		}
	}
}
