package ratio_test

import (
	"math"
	"math/big"
	"math/rand"
	"testing"

	"tinplate/api"
	"tinplate/ratio"
)

const most = api.MaxValue

func exact(r api.Ratio) *big.Rat { return big.NewRat(int64(r.Num), int64(r.Den)) }

// near makes valid ratios, many of them near the limits.
func near(r *rand.Rand) api.Ratio {
	list := []int{1, 2, 3, 6, 1 << 30, most, most - 1, most - 2, most / 3, 46340, 46341, 65536, 1 + r.Intn(most), 1 + r.Intn(100)}
	x := exact(api.Ratio{Num: list[r.Intn(len(list))], Den: list[r.Intn(len(list))]})
	num := int(x.Num().Int64()) * (1 - 2*r.Intn(2))
	if r.Intn(20) == 0 {
		return api.Ratio{Num: 0, Den: 1}
	}
	return api.Ratio{Num: num, Den: int(x.Denom().Int64())}
}

func check(t *testing.T, got api.Ratio, err api.Errno, want *big.Rat) {
	t.Helper()
	limit := big.NewInt(most)
	if want.Num().CmpAbs(limit) > 0 || want.Denom().Cmp(limit) > 0 {
		if err != api.ErrRange || got != (api.Ratio{}) {
			t.Fatal(got, err, want)
		}
		return
	}
	if err != api.OK || !ratio.Valid(got) || exact(got).Cmp(want) != 0 {
		t.Fatal(got, err, want)
	}
}

// P7.7
func TestOperations(t *testing.T) {
	r := rand.New(rand.NewSource(1))
	for range 100000 {
		a, b := near(r), near(r)
		x, y := exact(a), exact(b)
		got, err := ratio.Add(a, b)
		check(t, got, err, new(big.Rat).Add(x, y))
		got, err = ratio.Sub(a, b)
		check(t, got, err, new(big.Rat).Sub(x, y))
		got, err = ratio.Mul(a, b)
		check(t, got, err, new(big.Rat).Mul(x, y))
		if got, err = ratio.Div(a, b); b.Num != 0 {
			check(t, got, err, new(big.Rat).Quo(x, y))
		} else if got != (api.Ratio{}) || err != api.ErrZero {
			t.Fatal(a, b, got, err)
		}
		if ratio.Less(a, b) != (x.Cmp(y) < 0) {
			t.Fatal(a, b)
		}
		n := r.Intn(7) - 3
		if got, err = ratio.Pow(a, n); a.Num != 0 || n >= 0 {
			check(t, got, err, raised(x, n))
		} else if got != (api.Ratio{}) || err != api.ErrZero {
			t.Fatal(a, n, got, err)
		}
		square := new(big.Rat).Mul(x, x)
		if got, err = ratio.Mul(a, a); err == api.OK {
			root, err := ratio.Root(got)
			check(t, root, err, x.Abs(x))
		}
		if root, err := ratio.Root(a); err == api.OK {
			check(t, root, err, exact(root))
			if square.Mul(exact(root), exact(root)).Cmp(exact(a)) != 0 || root.Num < 0 {
				t.Fatal(a, root)
			}
		} else if err != api.ErrRoot || root != (api.Ratio{}) {
			t.Fatal(a, root, err)
		}
	}
}

func raised(x *big.Rat, n int) *big.Rat {
	y := big.NewRat(1, 1)
	for range max(n, -n) {
		y.Mul(y, x)
	}
	if n < 0 {
		y.Inv(y)
	}
	return y
}

// P7.7
func TestValid(t *testing.T) {
	for _, r := range [][2]int{{0, 1}, {1, 1}, {-3, 2}, {most, 1}, {-most, 1}, {1, most}, {most - 1, most}, {-most, most - 1}} {
		if !ratio.Valid(api.Ratio{Num: r[0], Den: r[1]}) {
			t.Error(r)
		}
	}
	for _, r := range [][2]int{
		{0, 0}, {1, 0}, {0, 2}, {2, 2}, {-4, 6}, {1, -1}, {most + 1, 1}, {-most - 1, 1}, {1, most + 1}, {math.MinInt, 1},
		{1, math.MinInt}, {math.MaxInt, math.MaxInt - 1},
	} {
		if ratio.Valid(api.Ratio{Num: r[0], Den: r[1]}) {
			t.Error(r)
		}
	}
}

// P7.7
func TestMeasure(t *testing.T) {
	r := rand.New(rand.NewSource(2))
	sizes := []int{1, 2, 3, 4, 6, 12, 36, 5, 25, 30, 2310, 46340, most, most - 1, most / 2}
	for range 30000 {
		var list []api.Ratio
		var exponents []int
		n := []int{0, 1, 7, 5040, 8388608, 9999999}[r.Intn(6)]
		want := big.NewRat(int64(n), 1)
		for range r.Intn(5) {
			x := big.NewRat(int64(sizes[r.Intn(len(sizes))]), int64(sizes[r.Intn(len(sizes))]))
			list = append(list, api.Ratio{Num: int(x.Num().Int64()), Den: int(x.Denom().Int64())})
			e := []int{0, 1, -1, 2, -2, 5, -6, 30, -30}[r.Intn(9)]
			exponents = append(exponents, e)
			want.Mul(want, raised(x, e))
		}
		scales := ratio.NewScales(list)
		got, err := scales.Measure(n, exponents)
		check(t, got, err, want)
		for i := range exponents {
			for _, e := range []int{31, -31, math.MaxInt, math.MinInt} {
				beyond := append([]int(nil), exponents...)
				beyond[i] = e
				if got, err := scales.Measure(n, beyond); got != (api.Ratio{}) || err != api.ErrRange {
					t.Fatal(list, beyond, got, err)
				}
			}
		}
	}
}

// P7.7
func TestLists(t *testing.T) {
	half, zero, bad := api.Ratio{Num: 1, Den: 2}, api.Ratio{Num: 0, Den: 1}, api.Ratio{Num: 2, Den: 4}
	for _, c := range []struct {
		list         []api.Ratio
		valid, sizes bool
	}{
		{nil, true, true},
		{[]api.Ratio{half, half}, true, true},
		{[]api.Ratio{half, zero}, true, false},
		{[]api.Ratio{{Num: -1, Den: 2}, half}, true, false},
		{[]api.Ratio{half, bad}, false, false},
		{[]api.Ratio{bad, half}, false, false},
	} {
		if ratio.AreValid(c.list) != c.valid || ratio.AreSizes(c.list) != c.sizes {
			t.Error(c)
		}
	}
}
