package blank_test

import (
	"math"
	"math/rand"
	"reflect"
	"slices"
	"testing"

	"tinplate/api"
	"tinplate/blank"
)

// strip has the items of the chapter's example.
var strip = []api.Item{{W: 2, H: 2, Value: 5}, {W: 4, H: 1, Value: 3}}

// ten are as many items as there may be.
func ten() []api.Item {
	var items []api.Item
	for i := range api.MaxItems {
		items = append(items, api.Item{W: 3 + 7*i%11, H: 2 + 5*i%13, Value: 20 + 17*i})
	}
	return items
}

// notOrders are sheets and items that are refused.
var notOrders = []struct {
	w, h  int
	items []api.Item
	err   api.Errno
}{
	{0, 3, strip, api.ErrArg},
	{4, 0, strip, api.ErrArg},
	{101, 3, strip, api.ErrArg},
	{4, 101, strip, api.ErrArg},
	{-4, 3, strip, api.ErrArg},
	{4, -3, strip, api.ErrArg},
	{math.MaxInt, 3, strip, api.ErrArg},
	{4, math.MinInt, strip, api.ErrArg},
	{0, 3, make([]api.Item, 11), api.ErrArg},
	{4, 3, make([]api.Item, 11), api.ErrLimit},
	{4, 3, append(ten(), strip...), api.ErrLimit},
	{4, 3, make([]api.Item, 10), api.ErrArg},
	{4, 3, append(slices.Clone(strip), api.Item{W: 0, H: 1, Value: 1}), api.ErrArg},
	{4, 3, append(slices.Clone(strip), api.Item{W: 1, H: 0, Value: 1}), api.ErrArg},
	{4, 3, append(slices.Clone(strip), api.Item{W: 1, H: 1, Value: 0}), api.ErrArg},
	{4, 3, append(slices.Clone(strip), api.Item{W: -1, H: 1, Value: 1}), api.ErrArg},
	{4, 3, []api.Item{{W: 101, H: 1, Value: 1}}, api.ErrArg},
	{4, 3, []api.Item{{W: 1, H: 101, Value: 1}}, api.ErrArg},
	{4, 3, []api.Item{{W: 1, H: 1, Value: 1048577}}, api.ErrArg},
	{4, 3, []api.Item{{W: 1, H: 1, Value: -1}}, api.ErrArg},
	{4, 3, []api.Item{{W: math.MaxInt, H: 1, Value: 1}}, api.ErrArg},
	{4, 3, []api.Item{{W: 1, H: math.MinInt, Value: 1}}, api.ErrArg},
	{4, 3, []api.Item{{W: 1, H: 1, Value: math.MaxInt}}, api.ErrArg},
	{4, 3, []api.Item{{W: 1, H: 1, Value: math.MinInt}}, api.ErrArg},
}

// P4.5, P4.6
func TestOrders(t *testing.T) {
	for _, c := range notOrders {
		if n, plan, err := blank.Best(c.w, c.h, c.items); n != 0 || len(plan) != 0 || err != c.err {
			t.Error(c, n, plan, err)
		}
		for _, plan := range [][]api.Cut{nil, cuts(0, 0), make([]api.Cut, 20002)} { // a plan that is too long comes last
			if n, counts, ok, err := blank.Worth(c.w, c.h, c.items, plan); n != 0 || len(counts) != 0 || ok || err != c.err {
				t.Error(c, len(plan), n, counts, ok, err)
			}
		}
	}
	for _, c := range []struct {
		n   int
		err api.Errno
	}{{20000, api.OK}, {20001, api.OK}, {20002, api.ErrLimit}, {30000, api.ErrLimit}} {
		if n, counts, ok, err := blank.Worth(4, 3, strip, make([]api.Cut, c.n)); n != 0 || len(counts) != 0 || ok || err != c.err {
			t.Error(c, n, counts, ok, err)
		}
	}
}

// P4.4, P4.5
func TestWorth(t *testing.T) {
	for _, c := range []struct {
		plan   []api.Cut
		value  int
		counts []int // none if it is no plan for 4 by 3
	}{
		{cuts(3, 1, 1, 1, 2, 2, 1, 0, 1, 0), 13, []int{2, 1}},
		{cuts(0, 0), 0, []int{0, 0}},
		{cuts(1, 0), 5, []int{1, 0}},
		{cuts(1, 1), 3, []int{0, 1}},
		{cuts(2, 3, 1, 0, 0, 0), 5, []int{1, 0}},
		{cuts(2, 1, 0, 0, 1, 0), 5, []int{1, 0}},
		{cuts(3, 2, 1, 1, 1, 1), 6, []int{0, 2}},
		{cuts(3, 2, 1, 0, 1, 0), 0, nil}, // the upper part is too low
		{cuts(3, 1, 1, 0, 1, 0), 0, nil}, // the lower part is too low
		{cuts(2, 3, 1, 0, 1, 0), 0, nil}, // the right part is too narrow
		{cuts(2, 1, 1, 0, 1, 0), 0, nil}, // the left part is too narrow
		{cuts(2, 2, 1, 1, 1, 0), 0, nil},
		{nil, 0, nil},
		{cuts(0, 1), 0, nil},
		{cuts(0, -1), 0, nil},
		{cuts(1, 2), 0, nil},
		{cuts(1, -1), 0, nil},
		{cuts(1, math.MaxInt), 0, nil},
		{cuts(1, math.MinInt), 0, nil},
		{cuts(2, 0, 0, 0, 0, 0), 0, nil},
		{cuts(2, 4, 0, 0, 0, 0), 0, nil},
		{cuts(2, -1, 0, 0, 0, 0), 0, nil},
		{cuts(2, math.MinInt, 0, 0, 0, 0), 0, nil},
		{cuts(3, 0, 0, 0, 0, 0), 0, nil},
		{cuts(3, 3, 0, 0, 0, 0), 0, nil},
		{cuts(3, math.MaxInt, 0, 0, 0, 0), 0, nil},
		{cuts(4, 1, 0, 0, 0, 0), 0, nil},
		{cuts(-1, 0), 0, nil},
		{cuts(4, 0), 0, nil},
		{cuts(math.MaxInt, 0), 0, nil},
		{cuts(math.MinInt, 0), 0, nil},
		{cuts(2, 2), 0, nil},
		{cuts(2, 2, 0, 0), 0, nil},
		{cuts(2, 2, 0, 0, 0, 0), 0, []int{0, 0}},
		{cuts(2, 2, 0, 0, 0, 0, 0, 0), 0, nil}, // one more than a plan
		{cuts(0, 0, 0, 0), 0, nil},
		{cuts(1, 0, 1, 0), 0, nil},
	} {
		n, counts, ok, err := blank.Worth(4, 3, strip, c.plan)
		if n != c.value || !slices.Equal(counts, c.counts) || ok != (c.counts != nil) || err != api.OK {
			t.Error(c, n, counts, ok, err)
		}
	}
	if n, counts, ok, err := blank.Worth(1, 1, nil, cuts(0, 0)); n != 0 || len(counts) != 0 || !ok || err != api.OK {
		t.Error(n, counts, ok, err)
	}
	if n, counts, ok, err := blank.Worth(1, 1, nil, cuts(1, 0)); n != 0 || len(counts) != 0 || ok || err != api.OK {
		t.Error(n, counts, ok, err)
	}
}

// lists goes through all lists of steps up to a length.
func lists(steps []api.Cut, length int, yield func([]api.Cut)) {
	var extend func(list []api.Cut)
	extend = func(list []api.Cut) {
		yield(list)
		if len(list) < length {
			for _, step := range steps {
				extend(append(list, step))
			}
		}
	}
	extend(nil)
}

// P4.4, P4.5: of all lists, those of allPlans and no others are accepted.
func TestWorthOfAll(t *testing.T) {
	var every, few []api.Cut
	for kind := -1; kind <= 4; kind++ {
		for n := -1; n <= 3; n++ {
			every = append(every, cut(kind, n))
		}
	}
	few = cuts(0, 0, 1, 0, 1, 1, 2, 1, 3, 1, 2, 2)
	for _, c := range []struct {
		w, h   int
		steps  []api.Cut
		length int
		items  []api.Item
	}{
		{1, 1, every, 3, []api.Item{{W: 1, H: 1, Value: 2}}},
		{2, 1, every, 4, []api.Item{{W: 1, H: 1, Value: 2}, {W: 2, H: 1, Value: 5}}},
		{2, 2, every, 4, []api.Item{{W: 1, H: 2, Value: 3}, {W: 2, H: 1, Value: 7}}},
		{2, 2, few, 7, []api.Item{{W: 1, H: 2, Value: 3}, {W: 1, H: 1, Value: 2}}},
		{3, 2, few, 7, []api.Item{{W: 2, H: 2, Value: 3}, {W: 1, H: 1, Value: 1}}},
		{2, 3, few, 5, nil},
	} {
		plans := map[string]planned{}
		for _, p := range allPlans(c.w, c.h, c.items) {
			plans[key(p.plan)] = p
		}
		lists(c.steps, c.length, func(list []api.Cut) {
			want, accepted := plans[key(list)]
			n, counts, ok, err := blank.Worth(c.w, c.h, c.items, list)
			if n != want.value || !slices.Equal(counts, want.counts) || ok != accepted || err != api.OK {
				t.Fatal(c, list, n, counts, ok, err)
			}
		})
	}
}

// key is a string of its own for each list with small numbers.
func key(list []api.Cut) string {
	var text []byte
	for _, step := range list {
		text = append(text, byte('a'+step.Kind), byte('a'+step.N))
	}
	return string(text)
}

// P4.6
func TestBest(t *testing.T) {
	for _, c := range []struct {
		w, h  int
		items []api.Item
		value int
		plan  []api.Cut
	}{
		{4, 3, strip, 13, cuts(3, 1, 1, 1, 2, 2, 1, 0, 1, 0)},
		{4, 3, nil, 0, cuts(0, 0)},
		{1, 1, strip, 0, cuts(0, 0)},
		{3, 1, []api.Item{{W: 1, H: 3, Value: 9}}, 0, cuts(0, 0)}, // items are not turned
		{3, 1, []api.Item{{W: 3, H: 1, Value: 9}}, 9, cuts(1, 0)},
		{1, 1, []api.Item{{W: 1, H: 1, Value: 4}, {W: 1, H: 1, Value: 4}}, 4, cuts(1, 0)},
		{1, 1, []api.Item{{W: 1, H: 1, Value: 4}, {W: 1, H: 1, Value: 5}}, 5, cuts(1, 1)},
		{2, 1, []api.Item{{W: 1, H: 1, Value: 4}, {W: 2, H: 1, Value: 8}}, 8, cuts(1, 1)}, // an item before a cut
		{2, 2, []api.Item{{W: 1, H: 1, Value: 1}}, 4, cuts(2, 1, 3, 1, 1, 0, 1, 0, 3, 1, 1, 0, 1, 0)},
		{3, 1, []api.Item{{W: 1, H: 1, Value: 1}}, 3, cuts(2, 1, 1, 0, 2, 1, 1, 0, 1, 0)},
		{4, 1, []api.Item{{W: 2, H: 1, Value: 1}}, 2, cuts(2, 2, 1, 0, 1, 0)}, // the cut is in the middle
		{1, 5, []api.Item{{W: 1, H: 2, Value: 1}}, 2, cuts(3, 1, 0, 0, 3, 2, 1, 0, 1, 0)},
		{7, 1, []api.Item{{W: 5, H: 1, Value: 3}, {W: 2, H: 1, Value: 1}}, 4, cuts(2, 2, 1, 1, 1, 0)},
		{7, 1, []api.Item{{W: 4, H: 1, Value: 3}}, 3, cuts(1, 0)},
		{100, 100, []api.Item{{W: 100, H: 100, Value: 1048576}}, 1048576, cuts(1, 0)},
	} {
		if n, plan, err := blank.Best(c.w, c.h, c.items); n != c.value || !slices.Equal(plan, c.plan) || err != api.OK {
			t.Error(c, n, plan, err)
		}
	}
}

// P4.6
func TestBestOfAll(t *testing.T) {
	r := rand.New(rand.NewSource(4))
	for i := range 1500 {
		w, h := 1+r.Intn(14), 1+r.Intn(14)
		items := someItems(r, 1+i%5, 1+i%9, 1+i%40)
		want, wanted := bestOf(w, h, items)
		if n, plan, err := blank.Best(w, h, items); n != want || !slices.Equal(plan, wanted) || err != api.OK {
			t.Error(w, h, items, n, plan, err, want, wanted)
		}
	}
	for _, size := range [][2]int{{100, 100}, {97, 31}, {1, 100}, {100, 1}} {
		want, wanted := bestOf(size[0], size[1], ten())
		if n, plan, err := blank.Best(size[0], size[1], ten()); n != want || !slices.Equal(plan, wanted) || err != api.OK {
			t.Error(size, n, plan, err, want, wanted)
		}
	}
}

// P4.5, P4.6: the longest plan, with the greatest value.
func TestGreatest(t *testing.T) {
	items := []api.Item{{W: 1, H: 1, Value: 1048576}}
	n, plan, err := blank.Best(100, 100, items)
	if n != 10000<<20 || len(plan) != 19999 || err != api.OK {
		t.Error(n, len(plan), err)
	}
	if n, counts, ok, err := blank.Worth(100, 100, items, plan); n != 10000<<20 || !slices.Equal(counts, []int{10000}) || !ok || err != api.OK {
		t.Error(n, counts, ok, err)
	}
}

// P4.5, P4.6: arguments stay as they are, and results are nobody else's.
func TestCutsMemory(t *testing.T) {
	items := ten()
	n, plan, _ := blank.Best(60, 50, items)
	kept := slices.Clone(plan)
	value, counts, ok, _ := blank.Worth(60, 50, items, plan)
	numbers := slices.Clone(counts)
	if !slices.Equal(plan, kept) || !reflect.DeepEqual(items, ten()) || value != n || !ok {
		t.Error(items, plan, value, ok)
	}
	clear(plan)
	clear(counts)
	m, again, _ := blank.Best(60, 50, items)
	if _, counts, _, _ := blank.Worth(60, 50, items, again); m != n || !slices.Equal(again, kept) || !slices.Equal(counts, numbers) {
		t.Error(m, again, counts)
	}
}
