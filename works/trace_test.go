package works_test

import (
	"fmt"
	"math/rand"
	"slices"
	"strings"
	"testing"

	"tinplate/api"
	"tinplate/works"
)

// A family is works with two sheets (1 and 3), their blanks (2 and 4), parts of the first ones (5 and 6), a lot of all of
// them but 2 (7), its cans (8), and a part of those (9).
const family = `
	pattern tri 0 0 2 0 0 2 => 3
	sheet 6 6               => lot 1
	cut 1 tri               => lot 2 9
	sheet 6 6               => lot 3
	cut 3 tri               => lot 4 9
	part 2 2                => lot 5
	part 2 3                => lot 6
	join 6 4 5              => lot 7
	form 7                  => lot 8
	part 8 1                => lot 9`

// P10.9: what comes from what, and the lots on all ways.
func TestComesFrom(t *testing.T) {
	play(t, played(t, family), `
		before 1     =>
		before 2     => 1
		before 3     =>
		before 5     => 1 2
		before 7     => 1 2 3 4 5 6
		before 9     => 1 2 3 4 5 6 7 8
		after 1      => 2 5 6 7 8 9
		after 2      => 5 6 7 8 9
		after 3      => 4 7 8 9
		after 7      => 8 9
		after 9      =>
		dominators 1 => 1
		dominators 3 => 3
		dominators 6 => 1 2 6
		dominators 7 => 7
		dominators 9 => 7 8 9
		before 0     => ! 6
		before 10    => ! 6
		after 0      => ! 6
		after 10     => ! 6
		dominators 0 => ! 6
		dominators 10 => ! 6
		lot 7        => 1 14 1 4 5 6
		audit        => good 10 9 2 18 36 0`)
	// the two parts of one lot are two ways, the lot itself is on both
	play(t, played(t, `
		pattern tri 0 0 2 0 0 2 => 3
		sheet 6 6               => lot 1
		cut 1 tri               => lot 2 9
		part 2 1                => lot 3
		part 2 1                => lot 4
		join 3 4                => lot 5
		join 2 5                => lot 6`), `
		dominators 5            => 1 2 5
		dominators 6            => 1 2 6
		before 6                => 1 2 3 4 5
		after 3                 => 5 6`)
}

// P10.9: the lots in all bad ones and in no good one.
func TestSuspects(t *testing.T) {
	w := played(t, family)
	play(t, w, `
		suspects 1 9             => 1 2 3 4 5 6 7 8 9
		suspects 2 5 6           => 1 2
		suspects 2 6 5           => 1 2
		suspects 2 5 4           =>
		suspects 1 9 5           => 3 4 6 7 8 9
		suspects 1 9 5 4         => 6 7 8 9
		suspects 1 5 5           =>
		suspects 1 5 9           =>
		suspects 3 9 9 8 6       => 3 4 5 7 8
		suspects 2 9 8 5 4       => 6 7 8
		suspects 1 1             => 1
		suspects 12 9 9 9 9 9 9 9 9 9 9 9 8 => 1 2 3 4 5 6 7 8
		suspects 0 9             => ! 2
		suspects -1 9            => ! 2
		suspects 2 9             => ! 2
		suspects 2 99            => ! 2
		suspects 1 99            => ! 6
		suspects 1 9 0           => ! 6
		suspects 1125899906842624 9  => ! 2
		suspects -1125899906842624 9 => ! 2
		suspects 1 10            => ! 6`)
	for _, c := range []struct {
		bad, good []int
		want      string
		err       api.Errno
	}{
		{nil, nil, "", api.ErrArg}, {nil, []int{1}, "", api.ErrArg}, {[]int{}, []int{99}, "", api.ErrArg},
		{[]int{0}, nil, "", api.ErrNone}, {[]int{10}, []int{1}, "", api.ErrNone}, {[]int{9}, []int{1, -1}, "", api.ErrNone},
		{[]int{1 << 62}, nil, "", api.ErrNone}, {[]int{-1 << 63}, nil, "", api.ErrNone}, {[]int{64}, nil, "", api.ErrNone},
		{[]int{9}, nil, "1 2 3 4 5 6 7 8 9", api.OK}, {[]int{8}, []int{5}, "3 4 6 7 8", api.OK},
		{slices.Repeat([]int{8, 9}, 5000), slices.Repeat([]int{5, 4}, 5000), "6 7 8", api.OK},
	} {
		got, err := w.Suspects(c.bad, c.good)
		if plainText(got) != c.want || err != c.err {
			t.Error(c.bad, c.good, got, err)
		}
	}
}

// P10.9: the smallest sets that stop everything, and of these the nearest.
func TestStop(t *testing.T) {
	w := played(t, family)
	play(t, w, `
		stop 1 1 9            => 1
		stop 1 9 1            =>
		stop 1 9 9            => 9
		stop 1 1 3            =>
		stop 2 1 3 9          => 7
		stop 2 1 3 9 8        => 7
		stop 2 1 3 9 4        => 1 3
		stop 3 4 5 6 8        => 7
		stop 3 4 5 6 7 4      => 4 7
		stop 1 2 5 6          => 2
		stop 2 2 5 5 6        => 2 5
		stop 2 2 2 9 9        => 2
		stop 3 1 2 3 1 2 3    => 1 2 3
		stop 2 5 6 9          => 7
		stop 2 5 7 9          => 7
		stop 1 8 1 2 3 9      => 8
		stop 0 1 9            => ! 2
		stop -1 1 9           => ! 2
		stop 2 1 9            => ! 2
		stop 2 99 9           => ! 2
		stop 3 1 9            => ! 2
		stop 1 1 99           => ! 6
		stop 1 99 1           => ! 6
		stop 1 0 1            => ! 6
		stop 1125899906842624 9 9  => ! 2
		stop -1125899906842624 9 9 => ! 2`)
	for _, c := range []struct {
		from, to []int
		want     string
		err      api.Errno
	}{
		{nil, nil, "", api.ErrArg}, {nil, []int{9}, "", api.ErrArg}, {[]int{1}, nil, "", api.ErrArg},
		{[]int{99}, nil, "", api.ErrArg}, {[]int{}, []int{99}, "", api.ErrArg},
		{[]int{99}, []int{9}, "", api.ErrNone}, {[]int{1}, []int{0}, "", api.ErrNone}, {[]int{-1 << 63}, []int{1<<63 - 1}, "", api.ErrNone},
		{[]int{64}, []int{65}, "", api.ErrNone}, {[]int{1, 3}, []int{9}, "7", api.OK},
		{slices.Repeat([]int{1, 3}, 5000), slices.Repeat([]int{4, 9}, 5000), "1 3", api.OK},
	} {
		got, err := w.Stop(c.from, c.to)
		if plainText(got) != c.want || err != c.err {
			t.Error(c.from, c.to, got, err)
		}
		lists, err := w.Paths(c.from, c.to)
		if len(lists) != len(got) || err != c.err {
			t.Error(c.from, c.to, lists, err)
		}
	}
}

// modelOf is the model of works.
func modelOf(w *works.Works) *model {
	m := newModel()
	for _, line := range w.Book() {
		m.exec(line)
	}
	return m
}

// someLots is some lots of so many.
func someLots(r *rand.Rand, count, most int) []int {
	var list []int
	for range 1 + r.Intn(most) {
		list = append(list, 1+r.Intn(count))
	}
	return list
}

// tangled is works of lots that are parted and joined, again and again.
func tangled(seed int64) *works.Works {
	w := works.New()
	r := rand.New(rand.NewSource(seed))
	w.Run("pattern tri 0 0 2 0 0 2\n" + strings.Repeat("sheet 6 6\n", 1+r.Intn(4)))
	for no := range w.Audit().Lots {
		w.Exec(fmt.Sprint("cut ", no+1, " tri"))
	}
	for range 5 + r.Intn(120) {
		lots := w.Audit().Lots
		switch r.Intn(4) {
		case 0, 1:
			w.Exec(fmt.Sprint("part ", 1+r.Intn(lots), " ", 1+r.Intn(3)))
		case 2:
			w.Exec("join " + plainText(append(someLots(r, lots, 3), 1+r.Intn(lots))))
		default:
			if r.Intn(4) == 0 {
				w.Exec(fmt.Sprint("form ", 1+r.Intn(lots)))
			}
		}
	}
	return w
}

// wrongLists is what is wrong with lists from lots to others, an empty string if nothing is.
func wrongLists(m *model, from, to []int, lists [][]int) string {
	seen := map[int]bool{}
	for _, list := range lists {
		if len(list) == 0 || !slices.Contains(from, list[0]) || !slices.Contains(to, list[len(list)-1]) {
			return "ends"
		}
		for i, no := range list {
			if seen[no] {
				return "in common"
			}
			if i > 0 && !slices.Contains(m.lots[no-1].From, list[i-1]) {
				return "not from"
			}
			seen[no] = true
		}
	}
	return ""
}

// P10.9, P10.14: Stop has the smallest set, of several the nearest, and Paths has as many lists without a lot in common,
// so that no smaller set would do; compared with the best of all sets.
func TestMenger(t *testing.T) {
	r := rand.New(rand.NewSource(5))
	sizes := map[int]int{}
	for seed := range 150 {
		w := tangled(int64(seed))
		m := modelOf(w)
		count := len(m.lots)
		for range 12 {
			from, to := someLots(r, count, 1+r.Intn(8)), someLots(r, count, 1+r.Intn(8))
			if r.Intn(3) == 0 { // from the first lots to the last ones
				from, to = someLots(r, min(8, count), 4), []int{count, max(1, count-1), max(1, count-2), max(1, count-3)}
			}
			stop, err := w.Stop(from, to)
			lists, also := w.Paths(from, to)
			if err != api.OK || also != api.OK || !slices.Equal(stop, m.stop(from, to)) {
				t.Fatal(seed, from, to, stop, err, also, m.stop(from, to))
			}
			if wrong := wrongLists(m, from, to, lists); wrong != "" || len(lists) != len(stop) {
				t.Fatal(seed, from, to, stop, lists, wrong)
			}
			if m.some(from, to, stop) != nil {
				t.Fatal(seed, from, to, stop)
			}
			sizes[len(stop)]++
		}
	}
	for size := range 5 {
		if sizes[size] < 15 {
			t.Error(sizes)
		}
	}
}

// ways is all ways to a lot: they begin with lots that were made from none.
func (m *model) ways(to int) [][]int {
	from := m.lots[to-1].From
	if len(from) == 0 {
		return [][]int{{to}}
	}
	var all [][]int
	for _, no := range from {
		for _, way := range m.ways(no) {
			all = append(all, append(way, to))
		}
	}
	return all
}

// P10.9, P10.13: dominators are the lots on all ways, one by one.
func TestDominators(t *testing.T) {
	several := 0
	for seed := range 200 {
		w := tangled(int64(1000 + seed))
		m := modelOf(w)
		if len(m.lots) > 30 {
			continue
		}
		for no := 1; no <= len(m.lots); no++ {
			ways := m.ways(no)
			want := m.numbers(func(lot int) bool {
				return !slices.ContainsFunc(ways, func(way []int) bool { return !slices.Contains(way, lot) })
			})
			got, err := w.Dominators(no)
			if !slices.Equal(got, want) || err != api.OK {
				t.Fatal(seed, no, got, want, err)
			}
			if len(ways) > 2 && len(want) > 2 {
				several++
			}
		}
	}
	if several < 100 {
		t.Error(several)
	}
}

// within tells whether all of a list are in another one.
func within(list, other []int) bool {
	return !slices.ContainsFunc(list, func(no int) bool { return !slices.Contains(other, no) })
}

// P10.9, P10.13: who is before and after whom, who is suspect, and who dominates.
func TestTracing(t *testing.T) {
	r := rand.New(rand.NewSource(6))
	for seed := range 100 {
		w := tangled(int64(2000 + seed))
		m := modelOf(w)
		for no := 1; no <= len(m.lots); no++ {
			before, err := w.Before(no)
			after, also := w.After(no)
			if err != api.OK || also != api.OK || !slices.Equal(before, m.before(no)) || !slices.Equal(after, m.after(no)) {
				t.Fatal(seed, no, before, after)
			}
			alone, _ := w.Suspects([]int{no}, nil)
			if !slices.Equal(alone, append(before, no)) {
				t.Fatal(seed, no, alone)
			}
			dominators, _ := w.Dominators(no)
			if !slices.Equal(dominators, m.dominators(no)) || !within(dominators, alone) {
				t.Fatal(seed, no, dominators)
			}
			for _, other := range dominators {
				if more, _ := w.Dominators(other); !within(more, dominators) {
					t.Fatal(seed, no, other)
				}
			}
		}
		for range 10 {
			bad, good := someLots(r, len(m.lots), 3), someLots(r, len(m.lots), 4)[1:]
			got, err := w.Suspects(bad, good)
			if !slices.Equal(got, m.suspects(bad, good)) || err != api.OK {
				t.Fatal(seed, bad, good, got, err)
			}
		}
	}
}

// P10.9: a lot that there is not is told by all.
func TestNoLot(t *testing.T) {
	w := played(t, family)
	for _, no := range []int{-1 << 63, -65, -1, 0, 10, 61, 63, 64, 65, 128, 1 << 32, 1<<63 - 1} {
		for name, find := range map[string]func(int) ([]int, api.Errno){"before": w.Before, "after": w.After, "dominators": w.Dominators} {
			if list, err := find(no); len(list) > 0 || err != api.ErrNone {
				t.Error(name, no, list, err)
			}
		}
	}
}
