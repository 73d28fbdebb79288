package works_test

import (
	"fmt"
	"math/rand"
	"slices"
	"strings"
	"testing"

	"tinplate/api"
	"tinplate/works"
)

// shown is all that works show.
func shown(w *works.Works) string {
	var b strings.Builder
	fmt.Fprintln(&b, w.Book(), w.Audit())
	for no := 1; no <= w.Audit().Lots; no++ {
		fmt.Fprintln(&b, fmt.Sprint(w.Lot(no)), fmt.Sprint(w.Before(no)), fmt.Sprint(w.After(no)), fmt.Sprint(w.Dominators(no)))
		fmt.Fprintln(&b, fmt.Sprint(w.Stop([]int{1, 2}, []int{no})), fmt.Sprint(w.Paths([]int{1, 2}, []int{no})))
	}
	for _, line := range []string{"plan", "if unit last", "if job 0 1", "if sheet 1 1", "if cut 1 p", "if pattern last 0 0 1 0 0 1"} {
		fmt.Fprintln(&b, w.Exec(line))
	}
	for _, name := range recipes {
		fmt.Fprintln(&b, w.Exec("value "+name+strings.Repeat(" 4", int(name[1]-'0'))))
	}
	return b.String()
}

// P10.10: the commands of the first part that were accepted stand in the book, with one blank between any two words.
func TestBook(t *testing.T) {
	w := works.New()
	for _, line := range []string{
		"  sheet  6   6 ", "sheet 6 0", "pattern tri 0 0 2 0 0 2", "pattern tri 0 0 2 0 0 2", "cut 1   tri", "cut 1 tri", "part 2 1",
		"audit", "join 2 3", "lot 4", "before 4", "form 4", "form x", "hold 5", "free 5", "if ship 5", "ship  5", "nope", "", "   ",
		"unit m", "recipe  f( x )  =  x", "recipe f", "value f 1", "job 0 1", "plan", "late 4", "suspects 1 1", "stop 1 1 2", "if audit",
		"after 1", "dominators 1",
	} {
		w.Exec(line)
	}
	want := []string{"sheet 6 6", "pattern tri 0 0 2 0 0 2", "cut 1 tri", "part 2 1", "join 2 3", "form 4", "hold 5", "free 5",
		"ship 5", "unit m", "recipe f( x ) = x", "job 0 1"}
	if got := w.Book(); !slices.Equal(got, want) {
		t.Error(got)
	}
	if a := w.Audit(); a != (api.Audit{Commands: 12, Lots: 5, Sheets: 1, Pieces: 9, Scrap: 18, Shipped: 9, Good: true}) {
		t.Error(a)
	}
}

// P10.10: if tries a command, on a copy.
func TestIf(t *testing.T) {
	w := played(t, `
		sheet 6 6                           => lot 1
		if sheet 6 6                        => lot 2
		if sheet 6 6                        => lot 2
		if  if   sheet 6 6                  => lot 2
		if pattern tri 0 0 2 0 0 2          => 3
		if cut 1 tri                        => ! 6
		pattern tri 0 0 2 0 0 2             => 3
		if cut 1 tri                        => lot 2 9
		if hold 1                           => ok
		if free 1                           => ! 9
		if form 1                           => ! 2
		if lot 1                            => 0 1 0
		if lot 2                            => ! 6
		if before 1                         =>
		if audit                            => good 2 1 1 0 0 0
		if job 0 3                          => 0
		if job 0 3                          => 0
		if plan                             => 0
		if unit m                           => ok
		if recipe a = 1[m]                  => ! 6
		if recipe a = 1                     => -
		if value a                          => ! 6
		if late 0                           => yes 0
		if if if if audit                   => good 2 1 1 0 0 0
		if                                  => ? line
		if if                               => ? line
		if nope                             => ? line
		if sheet 6                          => ? line
		if sheet 6 x                        => ? word 2
		if if cut x tri                     => ? word 1
		audit                               => good 2 1 1 0 0 0
		sheet 6 6                           => lot 2`)
	say(t, w, strings.Repeat("if ", 98)+"audit", "good 3 2 2 0 0 0")
	say(t, w, strings.Repeat("if ", 99)+"if", "? line")
	say(t, w, strings.Repeat("if ", 99)+"lot", "? line")
}

// full is works with a full book, and a lot of the kind LotCan.
func full(t *testing.T) *works.Works {
	t.Helper()
	w := played(t, `
		sheet 6 6               => lot 1
		pattern tri 0 0 2 0 0 2 => 3
		cut 1 tri               => lot 2 9
		form 2                  => lot 3`)
	for i := len(w.Book()); i < 2000; i++ {
		say(t, w, []string{"hold 3", "free 3"}[i%2], "ok")
	}
	return w
}

// P10.10: when the book is full, no command of the first part is accepted any more, and all their other errors come first.
func TestFullBook(t *testing.T) {
	w := full(t)
	before := shown(w)
	play(t, w, `
		sheet 6 6                => ! 8
		sheet 0 6                => ! 2
		pattern b 0 0 2 0 0 2    => ! 8
		pattern tri 0 0 2 0 0 2  => ! 7
		cut 1 tri                => ! 9
		form 3                   => ! 2
		part 3 1                 => ! 8
		part 3 9                 => ! 2
		join 3 3                 => ! 7
		hold 3                   => ! 8
		free 3                   => ! 9
		unit m                   => ! 8
		recipe a = 1             => ! 8
		recipe a =               => ! 5
		job 0 1                  => ! 8
		job 9 1                  => ! 2
		ship 3                   => ! 8
		ship 1                   => ! 9
		if sheet 6 6             => ! 8
		if if unit m             => ! 8
		if ship 99               => ! 6
		sheet 6                  => ? line
		sheet x 6                => ? word 1
		value a                  => ! 6
		plan                     => 0
		lot 3                    => 2 9 0 2
		lot 4                    => ! 6
		audit                    => good 2000 3 1 9 18 0`)
	if shown(w) != before {
		t.Error("changed")
	}
	if w.Copy().Exec("ship 3") != "! 8" {
		t.Error("copy")
	}
	book := w.Book()
	for _, c := range []struct {
		line string
		err  api.Errno
	}{
		{"ship 3", api.ErrFull}, {"unit m", api.ErrFull}, {"ship 1", api.ErrState}, {"ship 9", api.ErrNone}, {"sheet 0 0", api.ErrArg},
		{"audit", api.ErrForm}, {"", api.ErrForm}, {"if ship 3", api.ErrForm}, {"ship", api.ErrForm},
	} {
		if w, n, err := works.Read(append(book, c.line)); w != nil || n != 2001 || err != c.err {
			t.Error(c.line, n, err)
		}
	}
	again, n, err := works.Read(book)
	if n != 0 || err != api.OK || shown(again) != before {
		t.Error(n, err)
	}
}

// P10.10: Read, and the errors of a book's lines.
func TestRead(t *testing.T) {
	start := []string{"sheet 6 6", "pattern tri 0 0 2 0 0 2", " cut  1 tri "}
	for _, c := range []struct {
		line string
		err  api.Errno
	}{
		{"", api.ErrForm}, {"   ", api.ErrForm}, {strings.Repeat(" ", 400), api.ErrForm}, {"nope", api.ErrForm}, {"sheet 6", api.ErrForm},
		{"sheet 6 x", api.ErrForm}, {"sheet 6 6\n", api.ErrForm}, {"sheet 6 6\nsheet 6 6", api.ErrForm}, {"\tsheet 6 6", api.ErrForm},
		{"sheet 6 6" + strings.Repeat(" ", 300), api.ErrForm}, {"if", api.ErrForm}, {"if sheet 6 6", api.ErrForm}, {"if sheet 0 6", api.ErrForm},
		{"if if sheet 1 1", api.ErrForm}, {"if audit", api.ErrForm}, {"audit", api.ErrForm}, {"plan", api.ErrForm}, {"late 5", api.ErrForm},
		{"late -1", api.ErrForm}, {"lot 1", api.ErrForm}, {"lot 9", api.ErrForm}, {"before 9", api.ErrForm}, {"after 2", api.ErrForm},
		{"dominators 2", api.ErrForm}, {"suspects 1 2", api.ErrForm}, {"stop 1 1 2", api.ErrForm}, {"stop 0 1 2", api.ErrForm},
		{"value a", api.ErrForm}, {"value a x", api.ErrForm},
		{"sheet 0 6", api.ErrArg}, {"pattern tri 0 0 2 0 0 2", api.ErrExists}, {"pattern a 0 0 1 1 2 2", api.ErrPlan}, {"cut 1 tri", api.ErrState},
		{"cut 9 tri", api.ErrNone}, {"form 1", api.ErrState}, {"part 2 9", api.ErrArg}, {"join 2 2", api.ErrExists}, {"free 2", api.ErrState},
		{"unit m", api.OK}, {"recipe a = 1 + 1[m]", api.ErrNone}, {"recipe a =", api.ErrForm}, {"recipe  a = 1", api.OK}, {"job 0 1", api.OK},
		{"job 0 1 0 1 0 1 0 1", api.OK}, {"job 9 1", api.ErrArg}, {"ship 2", api.ErrArg}, {"hold 2", api.OK}, {" form 2 ", api.OK},
	} {
		for _, book := range [][]string{append(slices.Clone(start), c.line), append(slices.Clone(start), c.line, "nope", "sheet 0 0")} {
			want, line := c.err, 4
			if c.err == api.OK && len(book) > 4 {
				want, line = api.ErrForm, 5
			}
			if want == api.OK {
				line = 0
			}
			kept := slices.Clone(book)
			w, n, err := works.Read(book)
			if n != line || err != want || (w == nil) != (want != api.OK) || !slices.Equal(book, kept) {
				t.Errorf("%q %d %d", c.line, n, err)
			}
		}
	}
	w, n, err := works.Read(append(start, "unit m", "recipe  a  =  1[m]"))
	if n != 0 || err != api.OK {
		t.Fatal(n, err)
	}
	if want := []string{"sheet 6 6", "pattern tri 0 0 2 0 0 2", "cut 1 tri", "unit m", "recipe a = 1[m]"}; !slices.Equal(w.Book(), want) {
		t.Error(w.Book())
	}
	for _, empty := range [][]string{nil, {}} {
		w, n, err := works.Read(empty)
		if w == nil || n != 0 || err != api.OK || shown(w) != shown(works.New()) {
			t.Error(n, err)
		}
	}
}

// P10.10: Run executes lines, the last one too if it is not empty.
func TestRun(t *testing.T) {
	for text, want := range map[string]string{
		"":                                "",
		"\n":                              "",
		"\n\n \n   ":                      "",
		"audit":                           "good 0 0 0 0 0 0\n",
		"audit\n":                         "good 0 0 0 0 0 0\n",
		"audit\n ":                        "good 0 0 0 0 0 0\n",
		"\naudit\n\n":                     "good 0 0 0 0 0 0\n",
		"sheet 1 1\nsheet 1 1":            "lot 1\nlot 2\n",
		"sheet 1 1\nbefore 1\nafter 1\n":  "lot 1\n\n\n",
		"sheet 1 1\n \n\nsheet 0 1\nnope": "lot 1\n! 2\n? line\n",
		"sheet 1 1\r\nsheet 1 1\n":        "? line\nlot 1\n",
		"sheet 1 x\nif sheet 1 1\n":       "? word 2\nlot 1\n",
		"\t\n":                            "? line\n",
		"\x00":                            "? line\n",
	} {
		if got := works.New().Run(text); got != want {
			t.Errorf("%q: %q, not %q", text, got, want)
		}
	}
	for seed := range 20 {
		w := works.New()
		m := newMaker(int64(seed), w)
		text, replies := "", ""
		for range 60 {
			line := m.line(all)
			text += line + "\n"
			replies += w.Exec(line) + "\n"
		}
		again := works.New()
		if got := again.Run(text); got != replies || shown(again) != shown(w) {
			t.Error(seed)
		}
	}
}

// P10.10: a copy is of its own, whatever happens to either.
func TestCopy(t *testing.T) {
	for seed := range 60 {
		w := filled(int64(seed), 20+seed*3, all)
		before := shown(w)
		c := w.Copy()
		if shown(c) != before {
			t.Fatal(seed)
		}
		m, n := newMaker(int64(1000+seed), w), newMaker(int64(2000+seed), c)
		control, also := works.New(), works.New()
		control.Run(strings.Join(w.Book(), "\n"))
		also.Run(strings.Join(w.Book(), "\n"))
		for range 40 {
			line, other := m.line(all), n.line(all)
			say(t, w, line, control.Exec(line))
			say(t, c, other, also.Exec(other))
		}
		if shown(w) != shown(control) || shown(c) != shown(also) {
			t.Fatal(seed)
		}
	}
}

// Rule 3, P10.10: nil and zero works.
func TestNil(t *testing.T) {
	for _, w := range []*works.Works{nil, {}} {
		for _, line := range []string{"", "audit", "sheet 1 1", "nope", "lot x", "if audit", "\t"} {
			if w.Exec(line) != "" || w.Run(line) != "" || w.Run(line+"\n"+line) != "" {
				t.Error(line)
			}
		}
		if w.Book() != nil || w.Audit() != (api.Audit{}) || w.Copy() != nil {
			t.Error("not zero")
		}
		for _, no := range []int{-1, 0, 1} {
			if l, err := w.Lot(no); fmt.Sprint(l) != fmt.Sprint(api.Lot{}) || err != api.ErrNil {
				t.Error(no, l, err)
			}
			for _, find := range []func(int) ([]int, api.Errno){w.Before, w.After, w.Dominators} {
				if list, err := find(no); list != nil || err != api.ErrNil {
					t.Error(no, list, err)
				}
			}
		}
		for _, list := range [][]int{nil, {}, {0}, {1}} {
			for _, other := range [][]int{nil, {}, {0}, {1}} {
				a, e := w.Suspects(list, other)
				b, f := w.Stop(list, other)
				c, g := w.Paths(list, other)
				if a != nil || b != nil || c != nil || e != api.ErrNil || f != api.ErrNil || g != api.ErrNil {
					t.Error(list, other, a, b, c, e, f, g)
				}
			}
		}
	}
}

// Rule 4: results are new memory, and arguments stay as they are.
func TestMemory(t *testing.T) {
	w := played(t, family)
	before := shown(w)
	spoil := func(list []int, _ api.Errno) {
		for i := range list[:cap(list)] {
			list[:cap(list)][i] = 77
		}
	}
	l, err := w.Lot(7)
	spoil(l.From, err)
	spoil(w.Before(9))
	spoil(w.After(1))
	spoil(w.Dominators(9))
	from, to := []int{3, 1, 3}, []int{9, 4}
	spoil(w.Suspects(to, from[:1]))
	spoil(w.Stop(from, to))
	lists, err := w.Paths(from, to)
	if len(lists) != 2 || err != api.OK {
		t.Fatal(lists, err)
	}
	other := slices.Clone(lists[1])
	spoil(lists[0], err)
	if !slices.Equal(lists[1], other) {
		t.Error("two lists share memory")
	}
	book := w.Book()
	for i := range book[:cap(book)] {
		book[:cap(book)][i] = "x"
	}
	_ = append(book[:0], "y")
	if !slices.Equal(from, []int{3, 1, 3}) || !slices.Equal(to, []int{9, 4}) || shown(w) != before {
		t.Error("changed")
	}
}

// someBytes is any bytes, or words of commands in any order.
func someBytes(r *rand.Rand) string {
	words := append([]string{"if", "", " ", "0", "1", "2", "-1", "1/2", "p", "tri", "=", "x", "(", "\x00", "\xff", "1125899906842624"}, commands...)
	var b strings.Builder
	for range r.Intn(12) {
		if r.Intn(6) == 0 {
			b.WriteByte(byte(r.Intn(256)))
		} else {
			b.WriteString(pick(r, words...) + pick(r, " ", " ", " ", "  ", "", "\n"))
		}
	}
	return b.String()
}

// P1, P2: any line ends, and says the same to the same works.
func TestAnyLines(t *testing.T) {
	r := rand.New(rand.NewSource(8))
	for range 300 {
		w, same := works.New(), works.New()
		w.Run(family)
		same.Run(family)
		for range 100 {
			text := someBytes(r)
			if a, b := w.Exec(text), same.Exec(text); a != b {
				t.Fatalf("%q: %q, %q", text, a, b)
			}
			if a, b := w.Run(text), same.Run(text); a != b {
				t.Fatalf("%q: %q, %q", text, a, b)
			}
		}
		if shown(w) != shown(same) {
			t.Fatal("not the same")
		}
	}
	long := strings.Repeat("if ", 1<<20)
	say(t, works.New(), long, "? line")
	say(t, works.New(), strings.Repeat(" ", 1<<20)+"audit", "? line")
	say(t, works.New(), strings.Repeat(" ", 1<<20), "")
	if got := works.New().Run(strings.Repeat("\n", 1<<20) + long); got != "? line\n" {
		t.Error(len(got))
	}
}

// P1: any arguments are answered.
func TestAnyArguments(t *testing.T) {
	r := rand.New(rand.NewSource(9))
	w := played(t, family)
	odd := func() int {
		return pick(r, -1<<63, -1<<31, -64, -1, 0, 1, 2, 5, 7, 9, 10, 60, 61, 63, 64, 1<<31, 1<<62, 1<<63-1)
	}
	lists := func() []int {
		var list []int
		for range r.Intn(4) {
			list = append(list, odd())
		}
		return list
	}
	for range 5000 {
		no, a, b := odd(), lists(), lists()
		w.Lot(no)
		w.Before(no)
		w.After(no)
		w.Dominators(no)
		w.Suspects(a, b)
		w.Stop(a, b)
		w.Paths(a, b)
	}
}
