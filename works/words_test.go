package works_test

import (
	"slices"
	"strings"
	"testing"

	"tinplate/works"
)

// play executes the lines of a script, each of which has its reply behind =>.
func play(t *testing.T, w *works.Works, script string) {
	t.Helper()
	for _, step := range strings.Split(strings.TrimSpace(script), "\n") {
		line, want, _ := strings.Cut(step, "=>")
		line, want = strings.TrimSpace(line), strings.TrimSpace(want)
		if got := w.Exec(line); got != want {
			t.Errorf("%s => %s, not %s", line, got, want)
		}
	}
}

// played is new works in which a script was played.
func played(t *testing.T, script string) *works.Works {
	t.Helper()
	w := works.New()
	play(t, w, script)
	return w
}

// say checks the reply to a line.
func say(t *testing.T, w *works.Works, line, want string) {
	t.Helper()
	if got := w.Exec(line); got != want {
		t.Errorf("%q => %q, not %q", line, got, want)
	}
}

// The chapter's example.
func TestExample(t *testing.T) {
	played(t, `
		sheet 6 6                     => lot 1
		pattern tri 0 0 2 0 0 2       => 3
		cut 1 tri                     => lot 2 9
		form 2                        => lot 3
		lot 2                         => 1 9 1 1
		part 3 1                      => lot 4
		join 3 4                      => lot 5
		before 5                      => 1 2 3 4
		dominators 5                  => 1 2 3 5
		stop 1 1 5                    => 1
		hold 5                        => ok
		ship 5                        => ! 9
		unit m                        => ok
		recipe sq(x) = x * x          => 1,2 0,0
		value sq 3/2                  => 9/4
		job 0 3 1 2                   => 0
		job 1 2 0 4                   => 1
		plan                          => 7 0 3 0 3
		late 7                        => yes 7`)
}

// P10.2: what is a line, and what is none.
func TestLines(t *testing.T) {
	w := works.New()
	blanks := func(n int) string { return strings.Repeat(" ", n) }
	for _, n := range []int{0, 1, 2, 300, 301, 5000} {
		say(t, w, blanks(n), "")
	}
	nothing := "good 0 0 0 0 0 0"
	for _, line := range []string{"audit", " audit", "audit ", blanks(7) + "audit" + blanks(9), blanks(295) + "audit", "audit" + blanks(295)} {
		say(t, w, line, nothing)
	}
	for _, line := range []string{
		blanks(296) + "audit", "audit" + blanks(296), "lot x" + blanks(296), "lot 1" + blanks(296), strings.Repeat("a", 301),
		"\t", "\taudit", "audit\t", "audit\n", "\naudit", "audit\r", "audit\x00", "audit\x1f", "audit\x7f", "audit\x80", "audit\xff",
		"audit\u00a0", "audit\u00e9", "lot\t1", "lot x\x7f", "sheet 1 1\n", "recipe a = 1\xff",
		"Audit", "AUDIT", "audits", "audi", "nope", "1", "=", "-", "~", "lots 1", "iff audit", strings.Repeat("a", 300),
		"if", "if if", "if nope", "if if nope", "if audit 1", "if lot", "if Audit",
	} {
		say(t, w, line, "? line")
	}
	// all bytes from 32 to 126 may stand in a line
	text := ""
	for c := byte(33); c <= 126; c++ {
		text += string(rune(c))
	}
	say(t, w, "recipe "+text, "! 5")
	say(t, w, "recipe "+text+" "+text+" "+text, "! 5")
	say(t, w, "recipe "+strings.Repeat("a", 293), "! 5")
	say(t, w, "recipe "+strings.Repeat("a", 294), "? line")
	say(t, w, "   recipe   a =    7", "-")
	say(t, w, "value a", "7")
	if b := w.Book(); !slices.Equal(b, []string{"recipe a = 7"}) {
		t.Error(b)
	}
}

// counts are how many parameters each command takes.
var counts = map[string][]int{
	"sheet": {2}, "pattern": {7, 9, 11, 13, 15, 17, 19, 21, 23, 25}, "cut": {2}, "form": {1}, "part": {2},
	"join": {2, 3, 4, 5, 6, 7, 8}, "hold": {1}, "free": {1}, "unit": {1}, "job": {2, 4, 6, 8}, "ship": {1},
	"value": {1, 2, 3, 4}, "plan": {0}, "late": {1}, "lot": {1}, "before": {1}, "after": {1}, "dominators": {1},
	"suspects": {2, 3, 4, 5, 6, 7, 8, 9, 10, 11, 12, 13}, "stop": {3, 4, 5, 6, 7, 8, 9, 10, 11, 12, 13}, "audit": {0},
}

// P10.2, P10.3: another number of parameters makes no command.
func TestCounts(t *testing.T) {
	w := works.New()
	if len(counts)+1 != len(commands) {
		t.Fatal(len(counts))
	}
	for name, list := range counts {
		for count := range 100 {
			for _, word := range []string{" 0", " a", " ="} {
				line := name + strings.Repeat(word, count)
				if got := w.Copy().Exec(line); (got == "? line") == slices.Contains(list, count) {
					t.Error(line, got)
				}
			}
		}
	}
	for count := range 100 {
		line := "recipe" + strings.Repeat(" =", count)
		if got := w.Exec(line); (got == "? line") != (count < 1 || count > 40) {
			t.Error(line, got)
		}
	}
}

// P10.2: what is a number.
func TestNumbers(t *testing.T) {
	w := works.New()
	for _, word := range strings.Fields("0 1 -1 9 10 -10 60 1125899906842623 1125899906842624 -1125899906842623 -1125899906842624") {
		say(t, w, "lot "+word, "! 6")
	}
	for _, word := range strings.Fields(`1125899906842625 -1125899906842625 9223372036854775807 -9223372036854775808
		9223372036854775808 -9223372036854775809 18446744073709551617 99999999999999999999999 -99999999999999999999999
		00 01 -0 -00 -01 +0 +1 1.0 1. .1 1e3 0x1 0b1 1_0 --1 - + a 1a a1 -a 1- 1/1 0/1 1/2 " '1' 1, ~`) {
		say(t, w, "lot "+word, "? word 1")
	}
}

// P10.2: what is a name.
func TestNames(t *testing.T) {
	w := works.New()
	for _, word := range strings.Fields("a z a0 z9 m abcdefgh x0000000 units lets iff thens elses roots uni le audit lot") {
		say(t, w, "if unit "+word, "ok")
	}
	for _, word := range strings.Fields(`abcdefghi a00000000 9a 0 1 A Ab aB a_b a-b a.b a[ ] a=1 a(x) a/b -a = ~ unit let if then
		else root`) {
		say(t, w, "if unit "+word, "? word 1")
		say(t, w, "value "+word+" 1", "? word 1")
		say(t, w, "cut 1 "+word, "? word 2")
		say(t, w, "pattern "+word+" 0 0 1 0 0 1", "? word 1")
	}
}

// P10.2: what is a ratio.
func TestRatios(t *testing.T) {
	w := played(t, "recipe id(x) = x => 1,1")
	for _, word := range strings.Fields(`0 1 -1 7 -12 1/2 -1/2 3/2 -3/2 2147483647 2147483648 -2147483648 1/2147483648 -1/2147483648
		2147483648/3 -2147483648/2147483647 2147483647/2147483648`) {
		say(t, w, "value id "+word, word)
	}
	for _, word := range strings.Fields(`2147483649 -2147483649 1/2147483649 2147483649/2 -2147483649/2 1125899906842624
		99999999999999999999 1/99999999999999999999 99999999999999999999/2
		2/4 -2/4 4/2 0/2 0/1 3/1 -3/1 1/1 1/0 0/0 -0 -0/2 1/-2 -1/-2 +1 +1/2 1/+2 01 01/2 1/02 1/ /2 / 1//2 1/2/3 1.5 a a/2 1/a
		2147483648/2147483648 6/9 -6/9 2147483646/2147483648`) {
		say(t, w, "value id "+word, "? word 2")
		say(t, w, "value id 1 "+word, "? word 3")
		say(t, w, "value id 1/2 -1 "+word, "? word 4")
	}
}

// P10.2: the first parameter that is not of its kind is told, before anything is refused.
func TestWrongWords(t *testing.T) {
	played(t, `
		sheet x y                      => ? word 1
		sheet 1 y                      => ? word 2
		sheet 0 1/2                    => ? word 2
		sheet 1125899906842625 y       => ? word 1
		pattern p x y 0 0 1 1          => ? word 2
		pattern p 0 0 1 0 x y          => ? word 6
		pattern p 0 0 1 0 0 y          => ? word 7
		pattern p 0 0 1 0 0 1 1 1/2    => ? word 9
		pattern P 0 0 1 0 0 x          => ? word 1
		cut a a                        => ? word 1
		cut 1 1                        => ? word 2
		form a                         => ? word 1
		part a 1                       => ? word 1
		part 1 a                       => ? word 2
		join a 1                       => ? word 1
		join 1 1 1 1 1 1 1 a           => ? word 8
		hold a                         => ? word 1
		free a                         => ? word 1
		unit 1                         => ? word 1
		job a 1                        => ? word 1
		job 0 1 1 1 2 1 3 a            => ? word 8
		job 9 9 9 a                    => ? word 4
		ship a                         => ? word 1
		value 1                        => ? word 1
		value a 1 2 x                  => ? word 4
		late 1/2                       => ? word 1
		lot a                          => ? word 1
		before a                       => ? word 1
		after a                        => ? word 1
		dominators a                   => ? word 1
		suspects a 1                   => ? word 1
		suspects 1 a                   => ? word 2
		suspects 99 1 2 3 a            => ? word 5
		stop a 1 2                     => ? word 1
		stop 0 1 a                     => ? word 3
		if lot a                       => ? word 1
		if if sheet 1 y                => ? word 2
		if part 1 a                    => ? word 2
		sheet x                        => ? line
		sheet x y z                    => ? line
		audit                          => good 0 0 0 0 0 0`)
}
