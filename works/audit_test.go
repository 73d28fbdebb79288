package works

import (
	"strings"
	"testing"
)

// P10.11: an audit tells what is wrong. It is from inside the package, as no command makes works that are not good.
func TestBadAudits(t *testing.T) {
	for name, spoil := range map[string]func(f *floor){
		"as it is":           func(*floor) {},
		"a piece is lost":    func(f *floor) { f.lot(3).count-- },
		"a piece is there":   func(f *floor) { f.lot(4).count++ },
		"a lot is gone":      func(f *floor) { f.lot(4).state = 1 },
		"a lot is back":      func(f *floor) { f.lot(2).state = 0 },
		"from itself":        func(f *floor) { f.lot(4).from = setOf(4) },
		"from a later one":   func(f *floor) { f.lot(2).from = setOf(1, 3) },
		"from one not there": func(f *floor) { f.lot(4).from = setOf(1, 5) },
	} {
		w := New()
		w.Run("sheet 6 6\npattern tri 0 0 2 0 0 2\ncut 1 tri\nform 2\npart 3 4\nship 4\n")
		spoil(w.floor)
		good := name == "as it is"
		if w.Audit().Good != good || strings.HasPrefix(w.Exec("audit"), "good ") != good || strings.HasPrefix(w.Exec("audit"), "bad ") == good {
			t.Error(name, w.Exec("audit"))
		}
	}
}
