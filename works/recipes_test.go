package works_test

import (
	"fmt"
	"strings"
	"testing"

	"tinplate/api"
	"tinplate/lang"
	"tinplate/shop"
	"tinplate/works"
)

// sourceOf is the source that the commands of a book make.
func sourceOf(w *works.Works) api.Source {
	var lines []string
	for _, line := range w.Book() {
		if strings.HasPrefix(line, "unit ") {
			lines = append(lines, line)
		} else if body, ok := strings.CutPrefix(line, "recipe "); ok {
			lines = append(lines, "let "+body)
		}
	}
	s, _, _ := lang.Parse(strings.Join(lines, "\n"))
	return s
}

// P10.7: types, with rows, without rows, with units that come before and after.
func TestTypes(t *testing.T) {
	w := played(t, `
		recipe one = 1                              => -
		recipe id(x) = x                            => 1,1
		recipe sq(x) = x * x                        => 1,2
		recipe hyp(x, y) = root(x * x + y * y)      => 1,1,1
		recipe mul(x, y) = x * y                    => 1,0,1;0,1,1
		recipe fma(x, y, z) = x * y + z             => 1,0,1,1;0,1,1,1
		recipe any = 0                              => 1
		unit m                                      => ok
		recipe len = 3[m]                           => - 1
		recipe sq2(x) = sq(x)                       => 1,2 0,0
		unit s                                      => ok
		recipe fall(t) = 5[m s^-2] * t^2            => 1,2 0,1 0,-2
		recipe mul2(x, y) = mul(x, y)               => 1,0,1;0,1,1 0,0,0 0,0,0
		recipe acc = len/9[s^2]                     => - 1 -2
		value one                                   => 1
		value id -3/2                               => -3/2
		value sq -3/2                               => 9/4
		value hyp 3 4                               => 5
		value mul 2/3 3/2                           => 1
		value fma 1/2 1/3 1/4                       => 5/12
		value any                                   => 0
		value len                                   => 3
		value fall 3/2                              => 45/4
		value acc                                   => 1/3
		unit kg                                     => ok
		value fall 3/2                              => 45/4
		value sq2 7                                 => 49
		unit a                                      => ok`)
	types, _, err := lang.Infer(sourceOf(w))
	if len(types) != 12 || len(types[0].Fixed) != 4 || err != api.OK {
		t.Error(types, err)
	}
}

// P10.7: units and recipes are refused with the errors of layers 7 and 8, and are not there then.
func TestRecipeErrors(t *testing.T) {
	signs := func(words int) string { return strings.TrimSpace(strings.Repeat(" =", words)) }
	w := played(t, `
		recipe =                              => ! 5
		recipe a                              => ! 5
		recipe a =                            => ! 5
		recipe a = 01                         => ! 5
		recipe unit m                         => ! 5
		recipe let a = 1                      => ! 5
		recipe a(w, x, y, z) = 1              => ! 5
		recipe a = 1 1                        => ! 5
		recipe A = 1                          => ! 5
		recipe a(x, x) = 1                    => ! 7
		recipe a = b                          => ! 6
		recipe a = a                          => ! 6
		recipe a = 1[m]                       => ! 6
		value a                               => ! 6
		unit m                                => ok
		unit m                                => ! 7
		recipe f(x) = x * 1[m]                => 1,1 0,1
		recipe f(x) = x                       => ! 7
		recipe f = b                          => ! 7
		recipe g = f                          => ! 2
		recipe g = f(1, 2)                    => ! 2
		recipe g(t) = t + t * t + 1[m]        => ! 12
		recipe g = 1[m] + 1                   => ! 12
		recipe g = 0 + 0 + 0 + 0 + 0 + 0      => 1 0
		recipe h = 0 + 0 + 0 + 0 + 0 + 0 + 0  => ! 3
		recipe h = 1[m^3 m^3 m^3 m^3 m^3 m^3 m^3 m^3 m^3 m^3] => - 30
		recipe i = 1[m^3 m^3 m^3 m^3 m^3 m^3 m^3 m^3 m^3 m^3 m] => ! 4
		recipe i = h * 1[m]                   => ! 4
		recipe i(x) = ((x^3)^3)^3             => 1,27 0,0
		recipe j(x) = (((x^3)^3)^3)^2         => ! 4
		recipe m = 2[m]                       => - 1
		unit s                                => ok
		unit kg                               => ok
		unit mol                              => ok
		unit k                                => ! 3
		unit m                                => ! 3
		value f 2                             => 2
		value m                               => 2
		value j 1                             => ! 6`)
	say(t, w, "recipe "+signs(40), "! 5")
	say(t, w, "recipe "+signs(41), "? line")
	for i := len(sourceOf(w).Defs); i < 12; i++ {
		say(t, w, fmt.Sprint("recipe r", i, " = 1"), "- 0 0 0 0")
	}
	play(t, w, `
		recipe q = 1      => ! 3
		recipe q = b      => ! 3
		recipe f = 1      => ! 3
		recipe q =        => ! 5
		recipe r11 = 1    => ! 3
		value r11         => 1`)
}

// flat is a sum of so many numbers.
func flat(number string, count int) string {
	return strings.TrimSuffix(strings.Repeat(number+"+", count), "+")
}

// P10.7: a recipe that is too long for its code is refused after what is wrong with its types.
func TestLongRecipes(t *testing.T) {
	hundred := flat("("+flat("1", 10)+")", 10)
	w := played(t, "unit m => ok")
	play(t, w, "recipe a = "+hundred+" => - 0\n value a => 100")
	say(t, w, "recipe b = "+hundred+"+1", "! 3")
	say(t, w, "recipe b = "+hundred+"+1[m]", "! 12")
	say(t, w, "recipe b = ("+hundred+")*1[m^3 m^3 m^3 m^3 m^3 m^3 m^3 m^3 m^3 m^3 m]", "! 4")
	say(t, w, "recipe b = ("+hundred+")*1[s]", "! 6")
	say(t, w, "recipe b = "+flat("1", 21), "! 5")
	say(t, w, "value b", "! 6")
	say(t, w, "recipe b = "+flat("1", 20), "- 0")
}

// printed is a sum that is printed with so many bytes.
func printed(length int) string {
	terms := (length + 3 + 9) / 10
	digits := length - 3*(terms-1)
	var numbers []string
	for i := range terms {
		numbers = append(numbers, strings.Repeat("1", (digits+i)/terms))
	}
	return strings.Join(numbers, "+")
}

// P10.7: a source that is too long when it is printed is not valid, be it for a recipe or for a unit.
func TestLongSource(t *testing.T) {
	w := works.New()
	dense := func(name string) string {
		return "recipe " + name + "=(" + flat("9999999", 17) + ")*(" + flat("9999999", 17) + ")"
	}
	left := func() int {
		text, _ := lang.Print(sourceOf(w))
		return 4000 - len(text)
	}
	for i := range 11 {
		say(t, w, dense(fmt.Sprint("f", i)), "-")
	}
	say(t, w, dense("g"), "! 2")
	say(t, w, dense("g")+"+", "! 5")
	say(t, w, "recipe g="+printed(left()-len("let g = \n")+1), "! 2")
	say(t, w, "if recipe g="+printed(left()-len("let g = \n")), "-")
	say(t, w, "recipe g="+printed(left()-len("let g = \n")-10), "-")
	if left() != 10 {
		t.Fatal(left())
	}
	play(t, w, `
		unit abcdefgh       => ! 2
		unit abcde          => ! 2
		unit abcd           => ok
		unit a              => ! 2
		unit abcd           => ! 7
		recipe h = 1        => ! 3
		audit               => good 13 0 0 0 0 0`)
}

// P10.7: values, and their errors in their order.
func TestValues(t *testing.T) {
	played(t, `
		recipe inv(x) = 1 / x                               => 1,-1
		recipe rt(x) = root(x)                              => 2,1
		recipe big(x) = x * x                               => 1,2
		recipe two(x, y) = x - y                            => 1,1,1
		recipe pi = 355/113                                 => -
		recipe abs(x) = if x < 0 then 0 - x else x          => 1,1
		value no                                            => ! 6
		value no 1 2 3                                      => ! 6
		value inv                                           => ! 2
		value inv 0 0                                       => ! 2
		value pi 1                                          => ! 2
		value two 1                                         => ! 2
		value two 1 2 3                                     => ! 2
		value inv 0                                         => ! 13
		value inv -2                                        => -1/2
		value inv -2/3                                      => -3/2
		value rt 2                                          => ! 14
		value rt -4                                         => ! 14
		value rt 9/4                                        => 3/2
		value big 65536                                     => ! 4
		value big 46340                                     => 2147395600
		value two 1/2 -1/3                                  => 5/6
		value two 1/2 1/2                                   => 0
		value pi                                            => 355/113
		value abs -7/2                                      => 7/2
		value inv 1/2147483648                              => 2147483648
		value rt 0                                          => 0`)
}

// P10.7: a value may take as much fuel as there is, and no more. Each call of a recipe takes one instruction more than
// the recipe, each sum one for each sign, and each recipe one for its end.
func TestFuel(t *testing.T) {
	w := works.New()
	for _, recipe := range []string{
		"f0 = ((" + flat("1", 18) + ") * (" + flat("1", 17) + "))^1", // 35 numbers, 35 signs and the end: 71
		"f1 = " + flat("f0", 4),              // 4 * (71 + 2): 292
		"f2 = " + flat("f1", 17),             // 17 * (292 + 2): 4998
		"f3 = " + flat("f2", 20),             // 20 * (4998 + 2): 100000
		"f4 = (" + flat("f2", 19) + ")+f2^1", // one more
		"f5 = f3",
	} {
		say(t, w, "recipe "+recipe, "-")
	}
	play(t, w, `
		value f2 => 20808
		value f3 => 416160
		value f4 => ! 16
		value f5 => ! 16`)
}

// P10.16: later units and recipes change neither values nor types. A recipe that calls another one has its type.
func TestLaterRecipes(t *testing.T) {
	checked := 0
	for run := range 60 {
		w := works.New()
		m := newMaker(int64(700+run), w)
		types, values := map[string]string{}, map[string]string{}
		units := 0
		for range 120 {
			line := m.line(cooks)
			words, reply := strings.Fields(line), w.Exec(line)
			switch {
			case strings.ContainsAny(reply, "?!") || words[0] == "if":
			case words[0] == "unit":
				units++
				for name := range types {
					types[name] += " " + strings.TrimSuffix(strings.Repeat("0,", int(name[1]-'0')+1), ",")
				}
			case words[0] == "recipe":
				types[words[1][:2]] = reply
			case words[0] == "value":
				values[strings.Join(words, " ")] = reply
			}
			for line, want := range values {
				say(t, w, line, want)
			}
		}
		for name, want := range types {
			// the last place is for the recipe that calls it
			if len(types) == 12 {
				break
			}
			call := name + strings.TrimSuffix("("+[]string{"", "x,", "x,y,", "x,y,z,"}[name[1]-'0'], ",") + ")"
			head := "if recipe z" + call[2:] + " = " + call
			if name[1] == '0' {
				head = "if recipe z = " + name
			}
			say(t, w, head, want)
			checked++
		}
		checked += len(values) * units
	}
	if checked < 500 {
		t.Error(checked)
	}
}

// P10.8: jobs with their numbers, and the errors of the shop with them.
func TestJobs(t *testing.T) {
	played(t, `
		job 4 1                         => ! 2
		job -1 1                        => ! 2
		job 0 0                         => ! 2
		job 0 51                        => ! 2
		job 0 1 1 2 2 1125899906842624  => ! 2
		job 0 -1125899906842624         => ! 2
		plan                            => 0
		job 0 50 1 50 2 50 3 50         => 0
		job 3 1 2 1 1 1 0 1             => 1
		plan                            => 200 0 50 100 150 0 1 2 50
		job 0 1 0 1 0 1                 => ! 3
		job 9 1 0 1 0 1                 => ! 3
		job 9 1                         => ! 2
		job 1 2                         => 2
		job 1 2 3 4                     => ! 3
		job 9 2                         => ! 2
		job 1 2                         => 3
		job 1 2                         => ! 3
		job 9 2                         => ! 3
		audit                           => good 4 0 0 0 0 0`)
}

// P10.8: plan and late are as the shop says, with a proof wherever late says no.
func TestPlans(t *testing.T) {
	no := 0
	for run := range 40 {
		w := works.New()
		m := newMaker(int64(run), w)
		var jobs [][]api.Task
		for range 4 {
			line := "job" + m.tasks()
			if strings.HasPrefix(w.Exec(line), "!") {
				continue
			}
			var tasks []api.Task
			words := strings.Fields(line)[1:]
			for i := 0; i < len(words); i += 2 {
				var task api.Task
				fmt.Sscan(words[i]+" "+words[i+1], &task.Machine, &task.Time)
				tasks = append(tasks, task)
			}
			jobs = append(jobs, tasks)
		}
		starts, makespan, err := shop.Solve(jobs)
		if err != api.OK {
			t.Fatal(jobs, err)
		}
		say(t, w, "plan", plainText(append([]int{makespan}, starts...)))
		for _, limit := range []int{0, makespan - 1, makespan, makespan + 1, 10000} {
			want := fmt.Sprint("yes ", makespan)
			if limit < makespan {
				want = "no"
				no++
				proof, err := shop.Prove(jobs, max(limit, 0))
				if is, _ := shop.Check(jobs, max(limit, 0), proof); !is || err != api.OK {
					t.Error(jobs, limit)
				}
			}
			say(t, w, fmt.Sprint("late ", limit), want)
		}
		play(t, w, `
			late -1                  => ! 2
			late 10001               => ! 2
			late 1125899906842624    => ! 2
			late -1125899906842624   => ! 2`)
	}
	if no < 60 {
		t.Error(no)
	}
}
