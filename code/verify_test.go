package code_test

import (
	"fmt"
	"slices"
	"strings"
	"testing"

	"tinplate/api"
	"tinplate/code"
)

// lastType is the type of the last procedure, without the number of its parameters.
func lastType(t *testing.T, c api.Code) string {
	t.Helper()
	types, i, err := code.Verify(c)
	if err != api.OK {
		if len(types) > 0 {
			t.Error(shown(c), types)
		}
		return fmt.Sprint(i, " error ", err)
	}
	last := types[len(types)-1]
	if i != 0 || len(types) != len(c.Procs) || last.Params != c.Procs[len(types)-1].Params || len(last.Fixed) != c.Units {
		t.Error(shown(c), types, i)
	}
	return fmt.Sprint(last.Rows, last.Fixed)
}

// either is code that goes one way or the other. These meet behind it, where the first does not end.
func either(yes, no string) string {
	skip := len(asm(yes))
	if strings.HasSuffix(yes, "end") {
		return fmt.Sprint("push 1 push 2 less ", skip, " ", yes, " ", no, " ")
	}
	return fmt.Sprint("push 1 push 2 less ", skip+1, " ", yes, " jump ", len(asm(no)), " ", no, " ")
}

// P8.3: one procedure without units.
func TestVerify(t *testing.T) {
	for _, c := range []struct {
		params int
		text   string
		want   string
	}{
		{0, "push 5 end", "[] []"},
		{0, "push 0 end", "[[1]] []"},
		{0, "push 0 push 0 mul end", "[[1]] []"},
		{0, "push 0 push 1 add end", "[] []"},
		{0, "push 1 push 0 add end", "[] []"},
		{0, "push 0 pow 2 end", "[[2]] []"},
		{0, "push 0 pow -3 end", "[[3]] []"},
		{0, "push 0 pow 0 end", "[] []"},
		{0, "push 0 root end", "[[1]] []"},
		{1, "load 0 end", "[[1 1]] []"},
		{1, "push 1 end", "[[1 0]] []"},
		{1, "push 0 end", "[[1 0] [0 1]] []"},
		{1, "load 0 load 0 mul end", "[[1 2]] []"},
		{1, "load 0 load 0 div end", "[[1 0]] []"},
		{1, "push 1 load 0 div end", "[[1 -1]] []"},
		{1, "load 0 pow 3 end", "[[1 3]] []"},
		{1, "load 0 load 0 add end", "[[1 1]] []"},
		{1, "load 0 load 0 pow 2 add end", "[] []"},
		{1, "load 0 load 0 pow 2 sub end", "[] []"},
		{1, "load 0 root end", "[[2 1]] []"},
		{1, "load 0 root root end", "[[4 1]] []"},
		{1, "load 0 pow 3 root end", "[[2 3]] []"},
		{2, "load 0 load 0 mul load 1 load 1 mul add root end", "[[1 1 1]] []"},
		{2, "load 0 load 1 div end", "[[1 0 1] [0 1 -1]] []"},
		{2, "load 1 load 0 div end", "[[1 0 -1] [0 1 1]] []"},
		{2, "load 0 pow 2 load 1 div end", "[[1 0 2] [0 1 -1]] []"},
		{2, "load 0 pow 2 load 1 pow 3 add end", "[[3 2 6]] []"},
		{3, "load 0 load 1 mul load 2 div end", "[[1 0 0 1] [0 1 0 1] [0 0 1 -1]] []"},
		{1, "load 0 push 0 less 4 push 0 load 0 sub jump 1 load 0 end", "[[1 1]] []"},
		{2, "load 0 load 1 less 2 push 1 jump 1 push 2 end", "[[1 1 0]] []"},
		{2, "push 0 push 1 less 2 load 0 jump 1 load 1 end", "[[1 1 1]] []"},
		{2, "push 0 push 1 less 2 load 0 end load 1 end", "[[1 1 1]] []"},
		{2, "push 0 push 1 less 2 push 0 end load 1 end", "[[1 0 0] [0 1 1]] []"},
		{2, "push 0 push 1 less 2 load 1 end push 0 end", "[[1 0 0] [0 1 1]] []"},
		{1, "push 5 load 0 load 0 less 0 end", "[[1 0]] []"},
		{1, "load 0 load 0 push 1 less 0 end", "[] []"},
		{1, "load 0 jump 0 load 0 jump 0 mul end", "[[1 2]] []"},
		{3, "load 0 push 1 push 2 less 1 pow 2 load 1 mul end", "[[0 1 0 1] [0 0 1 0]] []"},
		{3, "load 0 load 1 push 1 push 2 less 2 load 2 mul pow 2 mul end", "[[1 0 0 1] [0 1 0 2]] []"},
		// Both values are the same on both ways to the division.
		{2, either("load 0 load 1", "load 1 load 0") + "div end", "[[1 1 0]] []"},
		{3, either("load 0 load 1", "load 0 load 2") + "div end", "[[1 0 0 1] [0 1 1 -1]] []"},
		{3, either("load 1 load 0", "load 2 load 0") + "div end", "[[1 0 0 -1] [0 1 1 1]] []"},
		// Three ways to an end, and three ends.
		{3, either("load 0", either("load 1", "load 2")) + "end", "[[1 1 1 1]] []"},
		{3, either("load 0 end", either("load 1 end", "load 2 end")), "[[1 1 1 1]] []"},
		{3, either("load 0 end", either("load 1 end", "push 0 end")), "[[1 1 0 1] [0 0 1 0]] []"},
	} {
		if got := lastType(t, plain(proc(c.params, c.text))); got != c.want {
			t.Error(c, got)
		}
	}
}

// P8.3: units.
func TestVerifyUnits(t *testing.T) {
	for _, c := range []struct {
		units, params int
		text          string
		want          string
	}{
		{1, 0, "push 5 1 end", "[] [[1]]"},
		{1, 0, "push 5 0 end", "[] [[0]]"},
		{1, 0, "push 0 0 end", "[[1]] [[0]]"},
		{1, 0, "push 0 1 end", "[] [[1]]"},
		{2, 0, "push 0 0 1 end", "[] [[0] [1]]"},
		{2, 0, "push 0 1 0 end", "[] [[1] [0]]"},
		{2, 0, "push 0 0 0 end", "[[1]] [[0] [0]]"},
		{4, 0, "push 5 1 -2 3 -4 end", "[] [[1] [-2] [3] [-4]]"},
		{2, 0, "push 5 1 -2 pow -2 end", "[] [[-2] [4]]"},
		{2, 0, "push 5 2 -2 root end", "[] [[1] [-1]]"},
		{2, 0, "push 5 2 -1 root end", "0 error 12"},
		{2, 1, "push 5 1 -2 load 0 pow 2 mul end", "[[1 2]] [[0 1] [0 -2]]"},
		{1, 1, "load 0 push 1 2 add end", "[] [[2 2]]"},
		{1, 1, "push 1 2 load 0 div end", "[[1 -1]] [[0 2]]"},
		{1, 1, "load 0 push 1 1 mul root end", "[[2 1]] [[1 1]]"},
		{1, 0, "push 1 1 push 1 0 add end", "0 error 12"},
		{1, 0, "push 1 1 push 1 0 push 5 1 push 5 0 less 0 mul end", "0 error 12"},
		{1, 1, "load 0 pow 2 push 1 1 add end", "0 error 12"},
		{1, 0, "push 1 0 push 2 0 less 2 push 3 1 jump 1 push 4 0 end", "0 error 12"},
		{1, 0, "push 1 0 push 2 0 less 2 push 3 1 end push 4 0 end", "0 error 12"},
		{1, 0, "push 1 0 push 2 0 less 2 push 3 1 end push 4 1 end", "[] [[1]]"},
		{1, 0, "push 1 1 push 1 0 push 2 0 less 1 pow 2 end", "0 error 12"},
		{1, 0, "push 1 1 push 1 0 push 2 0 less 1 pow 1 end", "[] [[1]]"},
		{1, 0, "push 0 0 push 1 0 push 2 0 less 1 pow 2 end", "[] [[0]]"},
	} {
		code := api.Code{Units: c.units, Procs: []api.Proc{proc(c.params, c.text)}}
		if got := lastType(t, code); got != c.want {
			t.Error(c, got)
		}
	}
}

// P8.3: calls.
func TestVerifyCalls(t *testing.T) {
	for _, c := range []struct {
		units int
		procs []api.Proc
		want  string
	}{
		{0, []api.Proc{proc(1, "load 0 pow 2 end"), proc(1, "load 0 call 0 end")}, "[[1 2]] []"},
		{0, []api.Proc{proc(1, "load 0 pow 2 end"), proc(1, "load 0 call 0 call 0 end")}, "[[1 4]] []"},
		{0, []api.Proc{proc(1, "load 0 root end"), proc(1, "load 0 pow 3 call 0 end")}, "[[2 3]] []"},
		{0, []api.Proc{proc(2, "load 0 load 1 div end"), proc(2, "load 0 load 1 pow 2 call 0 end")}, "[[1 0 1] [0 1 -2]] []"},
		{0, []api.Proc{proc(2, "load 0 load 1 add end"), proc(2, "load 0 load 1 pow 2 call 0 end")}, "[[2 1 2]] []"},
		{0, []api.Proc{proc(0, "push 0 end"), proc(1, "load 0 call 0 add end")}, "[[1 1]] []"},
		{0, []api.Proc{proc(0, "push 0 end"), proc(1, "load 0 end"), proc(0, "call 0 call 1 end")}, "[[1]] []"},
		{1, []api.Proc{proc(1, "load 0 push 1 1 add end"), proc(0, "push 2 0 call 0 end")}, "1 error 12"},
		{1, []api.Proc{proc(1, "load 0 push 1 1 add end"), proc(0, "push 2 1 call 0 end")}, "[] [[1]]"},
		{1, []api.Proc{proc(1, "load 0 push 1 1 add end"), proc(1, "load 0 pow 2 push 1 -1 mul call 0 end")}, "[] [[1 1]]"},
		{1, []api.Proc{proc(2, "load 0 load 1 div end"), proc(1, "push 2 1 load 0 call 0 end")}, "[[1 -1]] [[0 1]]"},
		{1, []api.Proc{proc(2, "load 0 load 1 div end"), proc(1, "load 0 push 2 1 call 0 end")}, "[[1 1]] [[0 -1]]"},
	} {
		if got := lastType(t, api.Code{Units: c.units, Procs: c.procs}); got != c.want {
			t.Error(c, got)
		}
	}
}

const (
	thirty  = "load 0 pow 3 pow 3 load 0 mul pow 3 "  // the parameter to the power 30
	inverse = "load 0 pow 3 pow 3 load 0 mul pow -3 " // to the power -30
)

// P8.3: numbers from -30 to 30, of forms and of equations; by them it shows which way's forms are taken, and which are
// equated.
func TestVerifyRange(t *testing.T) {
	for _, c := range []struct {
		params int
		text   string
		want   string
	}{
		{1, thirty + "end", "[[1 30]] []"},
		{1, inverse + "end", "[[1 -30]] []"},
		{1, thirty + "load 0 mul end", "0 error 4"},
		{1, inverse + "load 0 div end", "0 error 4"},
		{1, thirty + "load 0 mul load 0 div end", "0 error 4"},
		{1, thirty + "pow 2 pow 0 end", "0 error 4"},
		{1, thirty + "push 1 add end", "[] []"},
		{1, thirty + inverse + "add end", "0 error 4"},
		{1, thirty + inverse + "less 0 push 1 end", "0 error 4"},
		{1, thirty + inverse + "mul end", "[[1 0]] []"},
		{1, thirty + "root end", "[[1 15]] []"},
		{1, thirty + "load 0 mul root end", "0 error 4"},
		{1, either("push 1", thirty+"load 0 mul pow 0") + "end", "0 error 4"},
		{1, either("push 1", thirty) + "end", "[] []"},
		// The first way's form is taken behind a join.
		{2, either(thirty, "load 1") + "load 0 mul end", "0 error 4"},
		{2, either("load 1", thirty) + "load 0 mul end", "[[1 30 31]] []"},
		{2, "push 5 " + either("load 1", thirty) + "mul load 0 mul end", "[[1 30 31]] []"},
		{2, "push 5 " + either(thirty, "load 1") + "mul load 0 mul end", "0 error 4"},
		// Of three ways, each is equated with the next one.
		{1, either(thirty, either("push 1", inverse)) + "end", "[] []"},
		{1, either("push 1", either(thirty, inverse)) + "end", "0 error 4"},
		{1, either(thirty, either(inverse, "push 1")) + "end", "0 error 4"},
		{1, either("push 4 "+thirty, either("push 4 push 1", "push 4 "+inverse)) + "mul end", "[] []"},
		// Of three ends, the first is equated with the others.
		{1, either("push 1 end", either(thirty+"end", inverse+"end")), "[] []"},
		{1, either(thirty+"end", either("push 1 end", inverse+"end")), "0 error 4"},
		{1, either(thirty+"end", either(inverse+"end", "push 1 end")), "0 error 4"},
	} {
		if got := lastType(t, plain(proc(c.params, c.text))); got != c.want {
			t.Error(c, got)
		}
	}
}

// zeros pushes so many free zeros and adds them up.
func zeros(n int) string { return strings.Repeat("push 0 ", n) + strings.Repeat("add ", n-1) }

// P8.3: at most six unknowns.
func TestVerifyManyUnknowns(t *testing.T) {
	for _, c := range []struct {
		procs []api.Proc
		want  string
	}{
		{[]api.Proc{proc(0, zeros(6)+"end")}, "[[1]] []"},
		{[]api.Proc{proc(0, zeros(7)+"end")}, "0 error 3"},
		{[]api.Proc{proc(3, zeros(3)+"end")}, "[[1 0 0 0] [0 1 0 0] [0 0 1 0] [0 0 0 1]] []"},
		{[]api.Proc{proc(3, zeros(4)+"end")}, "0 error 3"},
		{[]api.Proc{proc(1, "load 0 root root root root root end")}, "[[32 1]] []"},
		{[]api.Proc{proc(1, "load 0 root root root root root root end")}, "0 error 3"},
		{[]api.Proc{proc(2, "load 0 end"), proc(0, strings.Repeat("push 1 push 1 call 0 ", 3)+"mul mul end")}, "[] []"},
		{[]api.Proc{proc(2, "load 0 end"), proc(1, strings.Repeat("push 1 push 1 call 0 ", 3)+"mul mul end")}, "1 error 3"},
		{[]api.Proc{proc(3, "push 0 end"), proc(2, "load 0 load 0 load 0 call 0 end")}, "[[1 0 0] [0 1 0] [0 0 1]] []"},
		{[]api.Proc{proc(3, "push 0 end"), proc(3, "load 0 load 0 load 0 call 0 end")}, "1 error 3"},
		{[]api.Proc{proc(0, "push 1 end"), proc(3, strings.Repeat("call 0 ", 9)+strings.Repeat("mul ", 8)+"end")}, "[[1 0 0 0] [0 1 0 0] [0 0 1 0]] []"},
		{[]api.Proc{proc(1, either("push 0", zeros(4))+"end")}, "[[1 0] [0 1]] []"},
		{[]api.Proc{proc(1, either("push 0", zeros(5))+"end")}, "0 error 3"},
	} {
		if got := lastType(t, plain(c.procs...)); got != c.want {
			t.Error(c, got)
		}
	}
}

// P8.3: the first procedure with an error, and of its errors the one that comes first; those of Form before them all.
func TestVerifyErrors(t *testing.T) {
	good, unit := proc(1, "load 0 end"), proc(0, "push 1 1 push 1 0 add end")
	far, wide := proc(1, thirty+"load 0 mul end"), proc(0, strings.ReplaceAll(zeros(7), "push 0", "push 0 0")+"end")
	mixed := func(texts ...string) api.Proc {
		return proc(1, strings.Join(texts, "")+strings.Repeat("mul ", len(texts)-1)+"end")
	}
	w, f, u := strings.ReplaceAll(zeros(7), "push 0", "push 0 0"), thirty+"load 0 mul ", "push 1 1 push 1 0 add "
	for _, c := range []struct {
		procs []api.Proc
		want  string
	}{
		{[]api.Proc{good, unit, wide, far}, "1 error 12"},
		{[]api.Proc{good, good, wide, unit}, "2 error 3"},
		{[]api.Proc{far, wide, unit}, "0 error 4"},
		{[]api.Proc{good, unit, proc(1, "load 0")}, "2 error 15"},
		{[]api.Proc{good, unit, proc(1, "load 1 end")}, "2 error 5"},
		{[]api.Proc{unit, good, proc(4, "push 1 0 end")}, "2 error 2"},
		{[]api.Proc{unit, good, proc(1, strings.Repeat("load 0 ", 201))}, "2 error 3"},
		{slices.Repeat([]api.Proc{unit}, 13), "0 error 3"},
		{[]api.Proc{mixed(f, u)}, "0 error 4"},
		{[]api.Proc{mixed(u, f)}, "0 error 4"},
		{[]api.Proc{mixed(u, w)}, "0 error 3"},
		{[]api.Proc{mixed(w, u)}, "0 error 3"},
		{[]api.Proc{mixed(f, w)}, "0 error 3"},
		{[]api.Proc{mixed(w, f)}, "0 error 3"},
		{[]api.Proc{good, mixed(u, f, w)}, "1 error 3"},
	} {
		if got := lastType(t, api.Code{Units: 1, Procs: c.procs}); got != c.want {
			t.Error(c, got)
		}
	}
	if types, i, err := code.Verify(api.Code{Units: 5}); len(types) > 0 || i != 0 || err != api.ErrArg {
		t.Error(types, i, err)
	}
	if types, i, err := code.Verify(api.Code{Units: 4}); len(types) > 0 || i != 0 || err != api.OK {
		t.Error(types, i, err)
	}
}

// P8.3: the same as by elimination, and P2: the same again.
func TestVerifyAgainstElimination(t *testing.T) {
	found := map[api.Errno]int{}
	for _, c := range anyCode(21, 8000) {
		before := fmt.Sprint(c)
		types, i, err := code.Verify(c)
		want, j, e := refVerify(c)
		if !slices.EqualFunc(types, want, sameScheme) || i != j || err != e {
			t.Fatalf("%v\n%v %v %v\n%v %v %v", shown(c), types, i, err, want, j, e)
		}
		found[err]++
		for _, scheme := range types {
			for _, row := range slices.Concat(scheme.Rows, scheme.Fixed) {
				row[0] = 77
			}
		}
		again, _, _ := code.Verify(c)
		if fmt.Sprint(c) != before || !slices.EqualFunc(again, want, sameScheme) {
			t.Fatal("memory is shared", before)
		}
	}
	for _, err := range []api.Errno{api.OK, api.ErrLimit, api.ErrRange, api.ErrUnit} {
		if found[err] < 100 {
			t.Error(found)
		}
	}
}
