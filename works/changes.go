package works

import (
	"slices"
	"strconv"

	"tinplate/api"
	"tinplate/blank"
	"tinplate/convex"
	"tinplate/shop"
)

// sheet makes a lot of one sheet.
type sheet struct{ width, height int }

func (c sheet) apply(f *floor) (string, api.Errno) {
	if !isSide(c.width) || !isSide(c.height) {
		return "", api.ErrArg
	}
	return named(f.add(lot{kind: api.LotSheet, count: 1, width: c.width, height: c.height}))
}

func isSide(length int) bool { return length >= 1 && length <= api.MaxSheet }

// named returns the reply to a command that adds a lot.
func named(no int, err api.Errno) (string, api.Errno) {
	if err != api.OK {
		return "", err
	}
	return "lot " + strconv.Itoa(no), api.OK
}

// draw makes a pattern.
type draw struct {
	name   string
	points []api.Vec
}

func (c draw) apply(f *floor) (string, api.Errno) {
	if f.pattern(c.name) >= 0 {
		return "", api.ErrExists
	}
	polygon, err := convex.Hull(c.points)
	if err != api.OK {
		return "", err
	}
	grid, err := blank.Densest(polygon)
	if err != api.OK {
		return "", err
	}
	if len(f.patterns) == api.MaxPatterns {
		return "", api.ErrFull
	}
	f.patterns = append(f.patterns, pattern{name: c.name, polygon: polygon, grid: grid})
	return strconv.Itoa(grid.A * grid.D), api.OK
}

// cut cuts a sheet by a pattern.
type cut struct {
	no      int
	pattern string
}

func (c cut) apply(f *floor) (string, api.Errno) {
	if err := f.inState(c.no, api.LotFree); err != api.OK {
		return "", err
	}
	s := f.lot(c.no)
	if s.kind != api.LotSheet {
		return "", api.ErrArg
	}
	i := f.pattern(c.pattern)
	if i < 0 {
		return "", api.ErrNone
	}
	p := f.patterns[i]
	places, _ := blank.Lay(p.polygon, p.grid, s.width, s.height)
	count := len(places)
	if count == 0 {
		return "", api.ErrPlan
	}
	area, _ := convex.Area(p.polygon)
	f.cut += count
	f.scrap += (2*s.width*s.height - area*count) / 2
	reply, err := named(f.use(api.LotBlank, count, c.no))
	if err != api.OK {
		return "", err
	}
	return reply + " " + strconv.Itoa(count), api.OK
}

// form makes cans of a lot of blanks.
type form struct{ no int }

func (c form) apply(f *floor) (string, api.Errno) {
	if err := f.inState(c.no, api.LotFree); err != api.OK {
		return "", err
	}
	l := f.lot(c.no)
	if l.kind != api.LotBlank {
		return "", api.ErrArg
	}
	return named(f.use(api.LotCan, l.count, c.no))
}

// part takes pieces from a lot.
type part struct{ no, count int }

func (c part) apply(f *floor) (string, api.Errno) {
	if err := f.inState(c.no, api.LotFree); err != api.OK {
		return "", err
	}
	l := f.lot(c.no)
	if l.kind == api.LotSheet || c.count < 1 || c.count >= l.count {
		return "", api.ErrArg
	}
	l.count -= c.count
	return named(f.add(lot{kind: l.kind, count: c.count, from: setOf(c.no)}))
}

// join makes one lot of several.
type join struct{ numbers []int }

func (c join) apply(f *floor) (string, api.Errno) {
	for _, no := range c.numbers {
		if err := f.inState(no, api.LotFree); err != api.OK {
			return "", err
		}
	}
	kind, count := f.lot(c.numbers[0]).kind, 0
	for i, no := range c.numbers {
		l := f.lot(no)
		if slices.Contains(c.numbers[:i], no) {
			return "", api.ErrExists
		}
		if l.kind == api.LotSheet || l.kind != kind {
			return "", api.ErrArg
		}
		count += l.count
	}
	return named(f.use(kind, count, c.numbers...))
}

// move brings a lot from one state to another one.
type move struct{ no, from, to int }

func (c move) apply(f *floor) (string, api.Errno) {
	if err := f.inState(c.no, c.from); err != api.OK {
		return "", err
	}
	f.lot(c.no).state = c.to
	return "ok", api.OK
}

// ship ships a lot of cans.
type ship struct{ no int }

func (c ship) apply(f *floor) (string, api.Errno) {
	if err := f.inState(c.no, api.LotFree); err != api.OK {
		return "", err
	}
	if f.lot(c.no).kind != api.LotCan {
		return "", api.ErrArg
	}
	f.lot(c.no).state = api.LotShipped
	return "ok", api.OK
}

// job adds a job to the shop.
type job struct{ tasks []api.Task }

func (c job) apply(f *floor) (string, api.Errno) {
	f.jobs = append(f.jobs, c.tasks)
	if _, _, err := shop.Heads(f.jobs); err != api.OK {
		return "", err
	}
	return strconv.Itoa(len(f.jobs) - 1), api.OK
}
