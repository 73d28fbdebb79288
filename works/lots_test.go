package works_test

import (
	"fmt"
	"math/rand"
	"strings"
	"testing"

	"tinplate/api"
	"tinplate/blank"
	"tinplate/convex"
	"tinplate/works"
)

// P10.1: there is nothing in new works.
func TestNew(t *testing.T) {
	w := played(t, `
		audit        => good 0 0 0 0 0 0
		lot 1        => ! 6
		value a      => ! 6
		cut 1 a      => ! 6
		plan         => 0
		late 0       => yes 0
		if unit m    => ok
		if recipe a = 1 => -
		if job 0 1   => 0
		if sheet 1 1 => lot 1`)
	if b := w.Book(); len(b) != 0 {
		t.Error(b)
	}
	if a := w.Audit(); a != (api.Audit{Good: true}) {
		t.Error(a)
	}
	if l, err := w.Lot(1); fmt.Sprint(l) != fmt.Sprint(api.Lot{}) || err != api.ErrNone {
		t.Error(l, err)
	}
}

// P10.4: errors in their order, and nothing is kept of what is refused.
func TestPatterns(t *testing.T) {
	w := played(t, `
		pattern sq 0 0 1 0 1 1 0 1              => 1
		pattern tri 0 0 2 0 0 2                 => 3
		pattern sq 0 0 3 0 0 3                  => ! 7
		pattern sq 0 0 1 1 2 2                  => ! 7
		pattern sq 1001 0 1 1 2 2               => ! 7
		pattern sq 0 0 13 0 0 13                => ! 7
		pattern a 1001 0 0 0 1 1                => ! 2
		pattern a 0 0 0 -1001 1 1               => ! 2
		pattern a 1001 0 0 0 1 0                => ! 2
		pattern a 1125899906842624 0 0 0 1 1    => ! 2
		pattern a -1125899906842624 0 0 0 1 1   => ! 2
		pattern a 0 0 1 1 2 2                   => ! 10
		pattern a 13 13 14 14 15 15             => ! 10
		pattern a 5 5 5 5 5 5                   => ! 10
		pattern a 0 0 13 0 0 1                  => ! 2
		pattern a 0 0 1 0 0 13                  => ! 2
		pattern a 0 -1 1 0 0 1                  => ! 2
		pattern a -1 0 1 0 0 1                  => ! 2
		pattern a 0 0 4 0 4 4 0 4 2 2 4 0 0 2   => 16
		pattern a 0 0 4 0 4 4 0 4               => ! 7
		pattern b 0 0 12 0 12 12 0 12           => 144
		pattern c 0 0 12 0 12 1                 => 12
		pattern d 11 11 12 12 11 12             => 1
		pattern e 2 0 0 0 0 2                   => 3
		pattern f 0 2 0 0 2 0 0 0 1 1 2 0       => 3
		pattern g 0 0 3 0 0 3                   => ! 8
		pattern a 0 0 3 0 0 3                   => ! 7
		pattern g 0 0 1 1 2 2                   => ! 10
		pattern g 0 0 2000 1 2 2                => ! 2
		pattern g 0 0 13 0 0 13                 => ! 2
		sheet 12 12                             => lot 1
		cut 1 g                                 => ! 6
		cut 1 b                                 => lot 2 1
		audit                                   => good 10 2 1 1 0 0`)
	if b := w.Book(); len(b) != 10 || b[2] != "pattern a 0 0 4 0 4 4 0 4 2 2 4 0 0 2" {
		t.Error(b)
	}
}

// somePoints is three points or more, as words and as a polygon, if they make a blank.
func somePoints(r *rand.Rand) (string, []api.Vec) {
	for {
		text, points := "", []api.Vec{}
		most := 1 + r.Intn(12)
		for range 3 + r.Intn(10) {
			v := api.Vec{X: r.Intn(most + 1), Y: r.Intn(most + 1)}
			text, points = text+fmt.Sprint(" ", v.X, " ", v.Y), append(points, v)
		}
		if p, err := convex.Hull(points); err == api.OK {
			return text, p
		}
	}
}

// P10.4, P10.5, P10.11: a pattern is the hull of its points with the densest grid; what is cut is what Lay has, and what
// is left is measured for each sheet, rounded down.
func TestCutsAndScrap(t *testing.T) {
	r := rand.New(rand.NewSource(1))
	odd := 0
	for run := range 60 {
		w := works.New()
		lots, pieces, scrap := 0, 0, 0
		for i := range 8 {
			name := fmt.Sprint("p", i)
			text, p := somePoints(r)
			g, _ := blank.Densest(p)
			say(t, w, "pattern "+name+text, fmt.Sprint(g.A*g.D))
			width, height := 1+r.Intn(30), 1+r.Intn(30)
			lots++
			say(t, w, fmt.Sprint("sheet ", width, " ", height), fmt.Sprint("lot ", lots))
			l, _ := blank.Lay(p, g, width, height)
			if len(l) == 0 {
				say(t, w, fmt.Sprint("cut ", lots, " ", name), "! 10")
				continue
			}
			lots++
			say(t, w, fmt.Sprint("cut ", lots-1, " ", name), fmt.Sprint("lot ", lots, " ", len(l)))
			area, _ := convex.Area(p)
			left := 2*width*height - len(l)*area
			odd += left % 2
			pieces, scrap = pieces+len(l), scrap+left/2
		}
		if a := w.Audit(); a.Pieces != pieces || a.Scrap != scrap || !a.Good || a.Lots != lots {
			t.Error(run, a, pieces, scrap)
		}
	}
	if odd < 20 {
		t.Error(odd)
	}
	// half a square is left of each of these, and so none
	played(t, `
		pattern half 0 0 1 0 0 1 => 1
		sheet 1 1                => lot 1
		sheet 1 1                => lot 2
		cut 1 half               => lot 3 1
		cut 2 half               => lot 4 1
		audit                    => good 5 4 2 2 0 0`)
}

// P10.5: sheets within their limits, and errors in their order.
func TestSheets(t *testing.T) {
	played(t, `
		sheet 0 1                   => ! 2
		sheet 1 0                   => ! 2
		sheet -1 1                  => ! 2
		sheet 101 1                 => ! 2
		sheet 1 101                 => ! 2
		sheet 1 1125899906842624    => ! 2
		sheet -1125899906842624 1   => ! 2
		sheet 100 100               => lot 1
		sheet 1 1                   => lot 2
		lot 1                       => 0 1 0
		cut 1 bar                   => ! 6
		pattern bar 0 0 12 0 12 1 0 1 => 12
		sheet 12 1                  => lot 3
		sheet 1 12                  => lot 4
		cut 0 bar                   => ! 6
		cut 5 bar                   => ! 6
		cut -1 no                   => ! 6
		cut 1125899906842624 bar    => ! 6
		cut 4 bar                   => ! 10
		lot 4                       => 0 1 0
		cut 3 bar                   => lot 5 1
		lot 3                       => 0 1 1
		lot 5                       => 1 1 0 3
		cut 3 bar                   => ! 9
		cut 3 no                    => ! 9
		cut 5 no                    => ! 2
		hold 5                      => ok
		cut 5 no                    => ! 9
		hold 4                      => ok
		cut 4 no                    => ! 9
		free 4                      => ok
		cut 4 no                    => ! 6
		cut 1 bar                   => lot 6 744
		audit                       => good 10 6 4 745 1072 0`)
}

// floor is what the works of these tests have: a sheet (2), nine blanks (3) and nine cans (6); 1, 4 and 5 are gone.
const floor = `
	sheet 6 6               => lot 1
	sheet 6 6               => lot 2
	pattern tri 0 0 2 0 0 2 => 3
	cut 1 tri               => lot 3 9
	sheet 6 6               => lot 4
	cut 4 tri               => lot 5 9
	form 5                  => lot 6`

// P10.6: form, and its errors in their order.
func TestForm(t *testing.T) {
	play(t, played(t, floor), `
		form 0   => ! 6
		form 7   => ! 6
		form 5   => ! 9
		form 4   => ! 9
		form 2   => ! 2
		form 6   => ! 2
		hold 3   => ok
		form 3   => ! 9
		free 3   => ok
		form 3   => lot 7
		lot 3    => 1 9 1 1
		lot 7    => 2 9 0 3
		form 3   => ! 9
		ship 7   => ok
		form 7   => ! 9
		lot 7    => 2 9 3 3`)
}

// P10.6: part, and its errors in their order.
func TestPart(t *testing.T) {
	play(t, played(t, floor), `
		part 0 1                    => ! 6
		part 9 0                    => ! 6
		part 5 1                    => ! 9
		part 1 0                    => ! 9
		part 2 1                    => ! 2
		part 2 0                    => ! 2
		part 3 0                    => ! 2
		part 3 -1                   => ! 2
		part 3 9                    => ! 2
		part 3 10                   => ! 2
		part 3 1125899906842624     => ! 2
		part 3 -1125899906842624    => ! 2
		part 3 8                    => lot 7
		lot 3                       => 1 1 0 1
		lot 7                       => 1 8 0 3
		part 3 1                    => ! 2
		part 6 1                    => lot 8
		lot 6                       => 2 8 0 5
		lot 8                       => 2 1 0 6
		part 7 3                    => lot 9
		lot 9                       => 1 3 0 7
		hold 7                      => ok
		part 7 99                   => ! 9
		audit                       => good 11 9 3 18 36 0`)
}

// P10.6: join, and its errors in their order.
func TestJoin(t *testing.T) {
	play(t, played(t, floor), `
		part 3 2               => lot 7
		part 3 3               => lot 8
		part 6 4               => lot 9
		join 99 1              => ! 6
		join 1 99              => ! 9
		join 3 3 99            => ! 6
		join 3 6 99            => ! 6
		join 3 3 1             => ! 9
		join 2 2 1             => ! 9
		join 2 99 1            => ! 6
		join 3 3               => ! 7
		join 3 6 3             => ! 2
		join 3 3 6             => ! 7
		join 2 2               => ! 2
		join 3 2               => ! 2
		join 2 3               => ! 2
		join 3 7 3 2           => ! 7
		join 3 7 2 3           => ! 2
		join 3 6               => ! 2
		join 6 3               => ! 2
		join 8 3 7             => lot 10
		lot 10                 => 1 9 0 3 7 8
		lot 3                  => 1 4 1 1
		lot 7                  => 1 2 1 3
		lot 8                  => 1 3 1 3
		join 10 3              => ! 9
		hold 9                 => ok
		join 6 9               => ! 9
		free 9                 => ok
		join 9 6               => lot 11
		lot 11                 => 2 9 0 6 9
		part 11 1              => lot 12
		part 11 1              => lot 13
		part 11 1              => lot 14
		part 11 1              => lot 15
		part 11 1              => lot 16
		part 11 1              => lot 17
		part 11 1              => lot 18
		join 18 17 16 15 14 13 12 11 => lot 19
		lot 19                 => 2 9 0 11 12 13 14 15 16 17 18
		lot 11                 => 2 2 1 6 9
		audit                  => good 22 19 3 18 36 0`)
}

// P10.6: hold, free and ship, and their errors in their order.
func TestStates(t *testing.T) {
	play(t, played(t, floor), `
		hold 0       => ! 6
		hold 7       => ! 6
		free 0       => ! 6
		free 7       => ! 6
		ship 0       => ! 6
		ship 7       => ! 6
		hold 1       => ! 9
		free 1       => ! 9
		ship 1       => ! 9
		free 2       => ! 9
		ship 2       => ! 2
		ship 3       => ! 2
		hold 2       => ok
		hold 2       => ! 9
		ship 2       => ! 9
		lot 2        => 0 1 2
		free 2       => ok
		lot 2        => 0 1 0
		hold 3       => ok
		lot 3        => 1 9 2 1
		hold 6       => ok
		ship 6       => ! 9
		free 6       => ok
		part 6 2     => lot 7
		ship 7       => ok
		lot 7        => 2 2 3 6
		ship 7       => ! 9
		hold 7       => ! 9
		free 7       => ! 9
		form 7       => ! 9
		part 7 1     => ! 9
		join 7 6     => ! 9
		audit        => good 14 7 3 18 36 2`)
}

// P10.5, P10.6: with as many lots as there may be no more are made, and what would be is as it was.
func TestFull(t *testing.T) {
	w := played(t, floor)
	for i := 7; i <= 59; i++ {
		say(t, w, "sheet 1 1", fmt.Sprint("lot ", i))
	}
	play(t, w, `
		part 6 4       => lot 60
		sheet 1 1      => ! 8
		sheet 0 1      => ! 2
		cut 2 tri      => ! 8
		cut 2 no       => ! 6
		cut 7 tri      => ! 10
		form 3         => ! 8
		form 6         => ! 2
		part 3 1       => ! 8
		part 3 9       => ! 2
		join 6 60      => ! 8
		join 6 6       => ! 7
		join 6 3       => ! 2
		lot 2          => 0 1 0
		lot 3          => 1 9 0 1
		lot 6          => 2 5 0 5
		lot 60         => 2 4 0 6
		lot 61         => ! 6
		hold 60        => ok
		free 60        => ok
		ship 60        => ok
		unit m         => ok
		if sheet 1 1   => ! 8
		audit          => good 65 60 56 18 36 4`)
	if a := w.Audit(); a != (api.Audit{Commands: 65, Lots: 60, Sheets: 56, Pieces: 18, Scrap: 36, Shipped: 4, Good: true}) {
		t.Error(a)
	}
}

// P10.6, P10.9: Lot tells what lot does.
func TestLot(t *testing.T) {
	w := filled(3, 300, join(making, tests))
	a := w.Audit()
	for no := 1; no <= a.Lots; no++ {
		l, err := w.Lot(no)
		if err != api.OK || l.No != no {
			t.Error(no, l, err)
		}
		words := []any{l.Kind, l.Count, l.State}
		for _, from := range l.From {
			words = append(words, from)
		}
		say(t, w, fmt.Sprint("lot ", no), strings.TrimSpace(fmt.Sprintln(words...)))
	}
	for _, no := range []int{-1 << 63, -1, 0, a.Lots + 1, 61, 64, 65, 1 << 32, 1<<63 - 1} {
		if l, err := w.Lot(no); fmt.Sprint(l) != fmt.Sprint(api.Lot{}) || err != api.ErrNone {
			t.Error(no, l, err)
		}
	}
}
