package works

import (
	"slices"

	"tinplate/api"
)

// A floor is all that commands have made. Nothing that a floor refers to ever changes, but for its lists.
type floor struct {
	lots       []lot // the one with the number 1 first
	patterns   []pattern
	recipes    string // lines of layer 7, each with its line feed
	jobs       [][]api.Task
	cut, scrap int // how many pieces all sheets gave, and how much was left of them
}

// A lot knows the lots that it was made from, and if it is a sheet, its size.
type lot struct {
	kind, count, state int
	from               set
	width, height      int
}

// A pattern is a blank, and the grid by which it is laid.
type pattern struct {
	name    string
	polygon []api.Vec
	grid    api.Grid
}

func (f *floor) copy() *floor {
	c := *f
	c.lots = make([]lot, len(f.lots))
	copy(c.lots, f.lots)
	c.patterns = slices.Clone(f.patterns)
	c.jobs = slices.Clone(f.jobs)
	return &c
}

func (f *floor) has(no int) bool { return no >= 1 && no <= len(f.lots) }

func (f *floor) hasAll(numbers []int) bool {
	for _, no := range numbers {
		if !f.has(no) {
			return false
		}
	}
	return true
}

// lot returns a lot that there is.
func (f *floor) lot(no int) *lot { return &f.lots[no-1] }

// inState returns why a lot is not in a state: there is no such lot, or it is in another one.
func (f *floor) inState(no, state int) api.Errno {
	switch {
	case !f.has(no):
		return api.ErrNone
	case f.lot(no).state != state:
		return api.ErrState
	}
	return api.OK
}

// add adds a lot and returns its number.
func (f *floor) add(l lot) (int, api.Errno) {
	if len(f.lots) == api.MaxLots {
		return 0, api.ErrFull
	}
	f.lots = append(f.lots, l)
	return len(f.lots), api.OK
}

// use adds a lot of pieces that others had; these are gone then.
func (f *floor) use(kind, count int, others ...int) (int, api.Errno) {
	for _, no := range others {
		f.lot(no).state = api.LotGone
	}
	return f.add(lot{kind: kind, count: count, from: setOf(others...)})
}

// pattern returns the index of the pattern of a name: -1 if there is none.
func (f *floor) pattern(name string) int {
	return slices.IndexFunc(f.patterns, func(p pattern) bool { return p.name == name })
}

// audit counts what there is.
func (f *floor) audit() api.Audit {
	a := api.Audit{Lots: len(f.lots), Scrap: f.scrap}
	inOrder := true
	for i, l := range f.lots {
		if l.kind == api.LotSheet {
			a.Sheets++
		} else if l.state != api.LotGone {
			a.Pieces += l.count
		}
		if l.state == api.LotShipped {
			a.Shipped += l.count
		}
		inOrder = inOrder && l.from.isBelow(i+1)
	}
	a.Good = inOrder && a.Pieces == f.cut
	return a
}
