package works

import (
	"slices"
	"strconv"

	"tinplate/api"
	"tinplate/shop"
)

// plan shows the shortest schedule of the shop.
type plan struct{}

func (plan) execute(w *Works) (string, api.Errno) {
	starts, makespan, _ := shop.Solve(w.floor.jobs)
	return listed(slices.Concat([]int{makespan}, starts), " "), api.OK
}

// late shows whether the shop can be done in time.
type late struct{ limit int }

func (c late) execute(w *Works) (string, api.Errno) {
	if c.limit < 0 || c.limit > api.MaxStart {
		return "", api.ErrArg
	}
	_, makespan, _ := shop.Solve(w.floor.jobs)
	if makespan > c.limit {
		return "no", api.OK
	}
	return "yes " + strconv.Itoa(makespan), api.OK
}

// show shows a lot.
type show struct{ no int }

func (c show) execute(w *Works) (string, api.Errno) {
	l, err := w.Lot(c.no)
	if err != api.OK {
		return "", err
	}
	return listed(slices.Concat([]int{l.Kind, l.Count, l.State}, l.From), " "), api.OK
}

// trace shows what is found for a lot.
type trace struct {
	no   int
	find func(w *Works, no int) ([]int, api.Errno)
}

func (c trace) execute(w *Works) (string, api.Errno) {
	lots, err := c.find(w, c.no)
	return listed(lots, " "), err
}

// split shows what is found for the lots up to a place in a list, and those behind it.
type split struct {
	at   int
	lots []int
	find func(w *Works, first, others []int) ([]int, api.Errno)
}

func (c split) execute(w *Works) (string, api.Errno) {
	if c.at < 1 || c.at > len(c.lots) {
		return "", api.ErrArg
	}
	lots, err := c.find(w, c.lots[:c.at], c.lots[c.at:]) // if there must be others, it is find that misses them
	return listed(lots, " "), err
}

// audit shows what an audit finds.
type audit struct{}

func (audit) execute(w *Works) (string, api.Errno) {
	a := w.Audit()
	word := "bad "
	if a.Good {
		word = "good "
	}
	counts := []int{a.Commands, a.Lots, a.Sheets, a.Pieces, a.Scrap, a.Shipped}
	return word + listed(counts, " "), api.OK
}
