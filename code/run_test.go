package code_test

import (
	"fmt"
	"math"
	"math/rand"
	"slices"
	"strconv"
	"strings"
	"testing"

	"tinplate/api"
	"tinplate/code"
)

const most = api.MaxValue

// result is what the last procedure returns, and how many instructions it takes.
func result(c api.Code, args, scales string, fuel int) string {
	v, n, err := code.Run(c, len(c.Procs)-1, fractions(args), fractions(scales), fuel)
	switch {
	case err != api.OK && (v != (api.Ratio{}) || n != 0):
		return fmt.Sprint(v, n, " error ", err)
	case err != api.OK:
		return fmt.Sprint("error ", err)
	case v.Den == 1:
		return fmt.Sprint(v.Num, " in ", n)
	}
	return fmt.Sprint(v.Num, "/", v.Den, " in ", n)
}

const abs = "load 0 push 0 less 4 push 0 load 0 sub jump 1 load 0 end"

// P8.4: procedures with two parameters.
func TestRun(t *testing.T) {
	large, root := "2147483648", "46341"
	for _, c := range []struct{ text, args, want string }{
		{"push 0 end", "1 1", "0 in 2"},
		{"push 9999999 end", "1 1", "9999999 in 2"},
		{"load 0 end", "3/2 1", "3/2 in 2"},
		{"load 1 end", "3/2 -7/5", "-7/5 in 2"},
		{"load 0 end", large + "/2147483647 1", large + "/2147483647 in 2"},
		{"load 0 load 1 add end", "1/2 1/3", "5/6 in 4"},
		{"load 0 load 1 sub end", "1/3 1/2", "-1/6 in 4"},
		{"load 1 load 0 sub end", "1/3 1/2", "1/6 in 4"},
		{"load 0 load 1 mul end", "2/3 3/4", "1/2 in 4"},
		{"load 0 load 1 div end", "2/3 4/3", "1/2 in 4"},
		{"load 1 load 0 div end", "2/3 4/3", "2 in 4"},
		{"load 0 load 1 div end", "2 0", "error 13"},
		{"load 0 load 1 div end", "0 2", "0 in 4"},
		{"load 0 pow 3 end", "-2/3 1", "-8/27 in 3"},
		{"load 0 pow -3 end", "-2/3 1", "-27/8 in 3"},
		{"load 0 pow 0 end", "0 1", "1 in 3"},
		{"load 0 pow -1 end", "0 1", "error 13"},
		{"load 0 root end", "9/4 1", "3/2 in 3"},
		{"load 0 root end", "2 1", "error 14"},
		{"load 0 root end", "-4 1", "error 14"},
		{"load 0 pow 2 end", "46340 1", "2147395600 in 3"},
		{"load 0 pow 2 end", root + " 1", "error 4"},
		{"load 0 load 1 add end", large + " 1", "error 4"},
		{"load 0 load 1 sub end", "-" + large + " 1", "error 4"},
		{"load 0 load 1 mul end", "65536 32768", large + " in 4"},
		{"load 0 load 1 mul end", "65537 32768", "error 4"},
		{"load 0 load 1 div end", "2 1/" + large, "error 4"},
		{abs, "3 1", "3 in 5"},
		{abs, "-3 1", "3 in 8"},
		{abs, "0 1", "0 in 5"},
		{"load 0 load 1 less 2 push 7 end push 8 end", "1/3 1/2", "7 in 5"},
		{"load 0 load 1 less 2 push 7 end push 8 end", "1/2 1/3", "8 in 5"},
		{"load 0 load 1 less 2 push 7 end push 8 end", "1/2 1/2", "8 in 5"},
		{"load 0 load 1 less 2 push 7 end push 8 end", "2147483646/2147483647 2147483647/" + large, "7 in 5"},
		{"push 5 load 0 load 1 less 0 end", "1 2", "5 in 5"},
		{"push 5 load 0 load 1 less 0 end", "2 1", "5 in 5"},
		{"push 5 load 0 load 1 less 1 pow 2 end", "1 2", "25 in 6"},
		{"push 5 load 0 load 1 less 1 pow 2 end", "2 1", "5 in 5"},
		{"jump 0 load 0 jump 0 end", "2 1", "2 in 4"},
		{"load 0 load 1 less 2 push 1 jump 3 push 0 push 0 div end", "1 2", "1 in 6"},
		{"load 0 load 1 less 2 push 1 jump 3 push 0 push 0 div end", "2 1", "error 13"},
		{"push 1 push 0 div push 2 root add end", "1 1", "error 13"},
		{"push 2 root push 1 push 0 div add end", "1 1", "error 14"},
		{"load 0 load 1 push 3 add mul end", "2 1", "8 in 6"},
		// What is left on the stack is as it was, whatever was put on it above and taken again.
		{"push 1 push 2 push 3 load 0 load 1 less 4 push 4 mul push 5 add add sub end", "1 2", "-18 in 13"},
		{"push 1 push 2 push 3 load 0 load 1 less 4 push 4 mul push 5 add add sub end", "2 1", "-4 in 9"},
	} {
		if got := result(plain(proc(2, c.text)), c.args, "", 100); got != c.want {
			t.Error(c, got)
		}
	}
}

// P8.4: calls.
func TestRunCalls(t *testing.T) {
	first := []api.Proc{
		proc(2, "load 0 load 1 sub end"), proc(0, "push 7 end"), proc(3, "load 0 load 1 load 2 call 0 call 0 end"),
		proc(1, "load 0 root end"), proc(2, "load 0 load 1 less 2 load 0 end load 1 end"),
	}
	for _, c := range []struct{ text, args, want string }{
		{"load 0 load 1 call 0 end", "5 3", "2 in 8"},
		{"load 1 load 0 call 0 end", "5 3", "-2 in 8"},
		{"call 1 load 0 call 1 mul add end", "5 3", "42 in 10"},
		{"load 0 load 1 push 1 call 2 end", "5 3", "3 in 19"},
		{"push 9 load 0 load 1 push 1 call 2 add end", "5 3", "12 in 21"},
		{"load 0 call 3 end", "9/4 3", "3/2 in 6"},
		{"load 0 call 3 end", "2 3", "error 14"},
		{"load 0 load 1 call 4 end", "5 3", "3 in 9"},
		{"load 0 load 1 call 4 end", "3 5", "3 in 9"},
		{"push 1 push 0 div load 0 call 3 add end", "2 3", "error 13"},
		{"load 0 call 3 push 1 push 0 div add end", "2 3", "error 14"},
		{"load 0 load 1 load 0 load 1 call 0 call 0 call 0 end", "5 3", "4 in 20"},
	} {
		if got := result(plain(append(slices.Clone(first), proc(2, c.text))...), c.args, "", 100); got != c.want {
			t.Error(c, got)
		}
	}
}

// P8.4: numbers with units.
func TestRunUnits(t *testing.T) {
	for _, c := range []struct{ text, scales, want string }{
		{"push 5 1 -2 end", "1 1", "5 in 2"},
		{"push 5 1 -2 end", "100 60", "5/36 in 2"},
		{"push 5 0 0 end", "100 60", "5 in 2"},
		{"push 0 1 -2 end", "100 60", "0 in 2"},
		{"push 5 2 0 end", "1/2 1", "5/4 in 2"},
		{"push 5 -3 0 end", "1/2 1", "40 in 2"},
		{"push 1 30 0 end", "2 1", "1073741824 in 2"},
		{"push 1 30 1 end", "2 2", "2147483648 in 2"},
		{"push 1 30 1 end", "2 3", "error 4"},
		{"push 1 -30 -1 end", "2 2", "1/2147483648 in 2"},
		{"push 1 -30 -2 end", "2 2", "error 4"},
		{"push 1 30 -30 end", "46341 46341", "1 in 2"},
		{"push 9 -30 30 end", "6 6", "9 in 2"},
		{"push 3 2 0 push 2 0 1 mul end", "3 5/2", "135 in 4"},
	} {
		if got := result(api.Code{Units: 2, Procs: []api.Proc{proc(0, c.text)}}, "", c.scales, 100); got != c.want {
			t.Error(c, got)
		}
	}
}

// P8.4: code needs no type.
func TestRunUntyped(t *testing.T) {
	c := api.Code{Units: 1, Procs: []api.Proc{proc(0, "push 2 1 push 3 0 add end")}}
	if _, _, err := code.Verify(c); err != api.ErrUnit {
		t.Error(err)
	}
	if got := result(c, "", "10", 4); got != "23 in 4" {
		t.Error(got)
	}
}

// P8.4: bad arguments, in the order of their errors.
func TestRunArguments(t *testing.T) {
	good := api.Code{Units: 1, Procs: []api.Proc{proc(1, "load 0 end"), proc(0, "push 1 1 end")}}
	bad := plain(proc(1, "load 1 end"))
	one := fractions("1")
	for _, c := range []struct {
		code         api.Code
		proc         int
		args, scales []api.Ratio
		fuel         int
		want         api.Errno
	}{
		{good, 0, one, one, 2, api.OK},
		{good, 1, nil, one, 2, api.OK},
		{good, 0, one, one, api.MaxFuel, api.OK},
		{good, 0, one, one, api.MaxFuel + 1, api.ErrArg},
		{good, 0, one, one, math.MaxInt, api.ErrArg},
		{good, 0, one, one, -1, api.ErrArg},
		{good, 0, one, one, math.MinInt, api.ErrArg},
		{good, 0, one, one, 0, api.ErrFuel},
		{good, 0, one, one, 1, api.ErrFuel},
		{bad, 0, one, nil, 2, api.ErrForm},
		{api.Code{Units: 5}, 0, one, nil, 2, api.ErrForm},
		{api.Code{Procs: make([]api.Proc, 13)}, 0, one, nil, 2, api.ErrForm},
		{plain(proc(4, "load 0 end")), 0, one, nil, 2, api.ErrForm},
		{plain(proc(1, strings.Repeat("load 0 ", 201))), 0, one, nil, 2, api.ErrForm},
		{plain(proc(1, "load 0")), 0, one, nil, 2, api.ErrForm},
		{plain(proc(1, "load 0 end"), proc(1, "load 0")), 0, one, nil, 2, api.ErrForm},
		{bad, 7, one, one, -1, api.ErrForm},
		{good, 0, one, nil, 2, api.ErrArg},
		{good, 0, one, fractions("1 1"), 2, api.ErrArg},
		{good, 0, one, fractions("0"), 2, api.ErrArg},
		{good, 0, one, fractions("-1"), 2, api.ErrArg},
		{good, 0, one, fractions("2/4"), 2, api.ErrArg},
		{good, 0, one, fractions("1/0"), 2, api.ErrArg},
		{good, 0, one, fractions("1/-1"), 2, api.ErrArg},
		{good, 0, one, fractions("-1/-1"), 2, api.ErrArg},
		{good, 0, one, fractions("2147483648/2147483647"), 2, api.OK},
		{good, 0, one, fractions("2147483649"), 2, api.ErrArg},
		{good, 0, one, fractions("1/2147483649"), 2, api.ErrArg},
		{good, 0, fractions("0"), one, 2, api.OK},
		{good, 0, fractions("0/2"), one, 2, api.ErrArg},
		{good, 0, fractions("0/0"), one, 2, api.ErrArg},
		{good, 0, fractions("2/4"), one, 2, api.ErrArg},
		{good, 0, fractions("1/-2"), one, 2, api.ErrArg},
		{good, 0, fractions("-2147483648"), one, 2, api.OK},
		{good, 0, fractions("-2147483649"), one, 2, api.ErrArg},
		{good, 0, fractions("2147483649"), one, 2, api.ErrArg},
		{good, 0, fractions("1/2147483649"), one, 2, api.ErrArg},
		{good, 0, []api.Ratio{{Num: math.MinInt, Den: math.MinInt}}, one, 2, api.ErrArg},
		{good, 0, []api.Ratio{{}}, one, 2, api.ErrArg},
		{good, 2, one, one, 2, api.ErrNone},
		{good, -1, one, one, 2, api.ErrNone},
		{good, math.MaxInt, one, one, 2, api.ErrNone},
		{good, math.MinInt, one, one, 2, api.ErrNone},
		{good, 2, one, one, -1, api.ErrNone},
		{good, 2, slices.Repeat(one, 9), one, 2, api.ErrNone},
		{good, 2, fractions("2/4"), one, 2, api.ErrArg},
		{good, 2, one, fractions("2/4"), 2, api.ErrArg},
		{good, 2, one, nil, 2, api.ErrArg},
		{good, 0, nil, one, 2, api.ErrArg},
		{good, 0, fractions("1 1"), one, 2, api.ErrArg},
		{good, 1, one, one, 2, api.ErrArg},
		{good, 1, slices.Repeat(one, 100), one, 2, api.ErrArg},
		{api.Code{}, 0, nil, nil, 2, api.ErrNone},
	} {
		v, n, err := code.Run(c.code, c.proc, c.args, c.scales, c.fuel)
		if err != c.want || err != api.OK && (v != (api.Ratio{}) || n != 0) || err == api.OK && n != 2 {
			t.Error(c, v, n, err)
		}
	}
}

// P8.4, P8.8: fuel is counted before an instruction is executed, also in calls.
func TestRunFuel(t *testing.T) {
	inner := proc(1, "load 0 push 1 sub end")
	for _, c := range []struct {
		text string
		args string
		fuel int
		want string
	}{
		{"load 0 end", "1", 2, "1 in 2"},
		{"load 0 end", "1", 3, "1 in 2"},
		{"load 0 end", "1", 1, "error 16"},
		{"load 0 end", "1", 0, "error 16"},
		{abs, "3", 5, "3 in 5"},
		{abs, "3", 4, "error 16"},
		{abs, "-3", 8, "3 in 8"},
		{abs, "-3", 7, "error 16"},
		{"load 0 call 0 end", "1", 7, "0 in 7"},
		{"load 0 call 0 end", "1", 6, "error 16"},
		{"load 0 call 0 end", "1", 5, "error 16"},
		{"load 0 call 0 end", "1", 4, "error 16"},
		{"load 0 push 0 div end", "1", 3, "error 13"},
		{"load 0 push 0 div end", "1", 2, "error 16"},
		{"load 0 root end", "2", 2, "error 14"},
		{"load 0 root end", "2", 1, "error 16"},
		{"load 0 load 0 mul end", "46341", 3, "error 4"},
		{"load 0 load 0 mul end", "46341", 2, "error 16"},
		{"push 0 load 0 call 0 div end", "1", 8, "error 13"},
		{"push 0 load 0 call 0 div end", "1", 7, "error 16"},
	} {
		if got := result(plain(inner, proc(1, c.text)), c.args, "", c.fuel); got != c.want {
			t.Error(c, got)
		}
	}
}

// burners are procedures that execute 2, 2 + 10*10 and so on instructions: more than there can be fuel for.
func burners() []api.Proc {
	list := []api.Proc{proc(0, "push 1 end")}
	for i := range 11 {
		text := strings.Repeat("call "+strconv.Itoa(i)+" ", 9) + strings.Repeat("mul ", 8)
		list = append(list, proc(0, text+"end"))
	}
	return list
}

// P8.4: 100000 instructions and more, to the greatest depth.
func TestRunOfLongCode(t *testing.T) {
	for i := range 12 {
		c := plain(burners()[:i+1]...)
		v, n, err := code.Run(c, i, nil, nil, api.MaxFuel)
		want, m, e := refRun(c, i, nil, nil, api.MaxFuel)
		if e != api.OK {
			m = 0
		}
		if v != want || n != m || err != e || (err == api.ErrFuel) != (i > 4) {
			t.Error(i, v, n, err, want, m, e)
		}
	}
}

// P8.4: 40 values on the stack of each of 12 procedures.
func TestRunWithFullStacks(t *testing.T) {
	list := []api.Proc{proc(1, "load 0 load 0 add end")}
	for i := range 11 {
		text := strings.Repeat("load 0 ", 40) + "call " + strconv.Itoa(i) + " " + strings.Repeat("sub ", 39)
		list = append(list, proc(1, text+"end"))
	}
	c := plain(list...)
	for i := range list {
		v, n, err := code.Run(c, i, fractions("3"), nil, api.MaxFuel)
		if want, m, e := refRun(c, i, fractions("3"), nil, api.MaxFuel); v != want || n != m || err != e || err != api.OK {
			t.Error(i, v, n, err, want, m, e)
		}
	}
}

// reasonable makes an argument: a small one, or one near the limits.
func reasonable(r *rand.Rand) api.Ratio {
	part := func() int {
		return pick(r, 1, 1, 2, 3, 4, 1+r.Intn(12), most-r.Intn(3), 46340, 1<<r.Intn(32), r.Intn(most)+1)
	}
	num, den := part(), part()
	if r.Intn(3) > 0 {
		num, den = 1+r.Intn(9), 1+r.Intn(4)
	}
	x := exact(api.Ratio{Num: num, Den: den})
	return api.Ratio{Num: int(x.Num().Int64()), Den: int(x.Denom().Int64())}
}

// arguments makes good arguments and scales for a procedure.
func arguments(r *rand.Rand, params, units int) (args, scales []api.Ratio) {
	for range params {
		a := reasonable(r)
		args = append(args, pick(r, a, a, a, api.Ratio{Num: -a.Num, Den: a.Den}, api.Ratio{Num: 0, Den: 1}))
	}
	for range units {
		scales = append(scales, pick(r, reasonable(r), api.Ratio{Num: 1, Den: 1}, api.Ratio{Num: 2, Den: 3}))
	}
	return args, scales
}

// P8.4: the same as with numbers of any length.
func TestRunAgainstFrames(t *testing.T) {
	r := rand.New(rand.NewSource(31))
	found := map[api.Errno]int{}
	for _, c := range anyCode(31, 8000) {
		i := len(c.Procs) - 1
		args, scales := arguments(r, c.Procs[i].Params, c.Units)
		before := fmt.Sprint(c, args, scales)
		fuel := pick(r, api.MaxFuel, 500, r.Intn(20))
		v, n, err := code.Run(c, i, args, scales, fuel)
		want, m, e := refRun(c, i, args, scales, fuel)
		if e != api.OK {
			m = 0
		}
		if v != want || n != m || err != e || fmt.Sprint(c, args, scales) != before {
			t.Fatal(shown(c), args, scales, fuel, v, n, err, want, m, e)
		}
		found[err]++
	}
	for _, err := range []api.Errno{api.OK, api.ErrZero, api.ErrRoot, api.ErrRange, api.ErrFuel} {
		if found[err] < 300 {
			t.Error(found)
		}
	}
}
