package works

import "tinplate/api"

// A command is what a line says. If it is refused, it changes nothing.
type command interface {
	execute(w *Works) (reply string, err api.Errno)
}

// A change is what a command of the first part does to a floor, which is of no use any more if it is refused.
type change interface {
	apply(f *floor) (reply string, err api.Errno)
}

// An entry is a command of the first part with its text in the book.
type entry struct {
	change change
	text   string
}

func (e entry) execute(w *Works) (string, api.Errno) {
	next := w.floor.copy()
	reply, err := e.change.apply(next)
	if err != api.OK {
		return "", err
	}
	if len(w.book) == api.MaxBook {
		return "", api.ErrFull
	}
	w.floor = next
	w.book = append(w.book, e.text)
	return reply, api.OK
}

// A trial executes a command on a copy.
type trial struct{ command command }

func (t trial) execute(w *Works) (string, api.Errno) { return t.command.execute(w.Copy()) }

// changeOf returns what the command of this name does, if it is one of the first part: nil otherwise.
func changeOf(name string, p params) change {
	switch name {
	case "sheet":
		return sheet{width: p.numbers[0], height: p.numbers[1]}
	case "pattern":
		return draw{name: p.names[0], points: p.points()}
	case "cut":
		return cut{no: p.numbers[0], pattern: p.names[0]}
	case "form":
		return form{no: p.numbers[0]}
	case "part":
		return part{no: p.numbers[0], count: p.numbers[1]}
	case "join":
		return join{numbers: p.numbers}
	case "hold":
		return move{no: p.numbers[0], from: api.LotFree, to: api.LotHeld}
	case "free":
		return move{no: p.numbers[0], from: api.LotHeld, to: api.LotFree}
	case "ship":
		return ship{no: p.numbers[0]}
	case "unit":
		return unit{name: p.names[0]}
	case "recipe":
		return recipe{words: p.texts}
	case "job":
		return job{tasks: p.tasks()}
	}
	return nil
}

// lookOf returns the command of this name, which is one that only looks.
func lookOf(name string, p params) command {
	switch name {
	case "value":
		return value{name: p.names[0], args: p.ratios}
	case "plan":
		return plan{}
	case "late":
		return late{limit: p.numbers[0]}
	case "lot":
		return show{no: p.numbers[0]}
	case "before":
		return trace{no: p.numbers[0], find: (*Works).Before}
	case "after":
		return trace{no: p.numbers[0], find: (*Works).After}
	case "dominators":
		return trace{no: p.numbers[0], find: (*Works).Dominators}
	case "suspects":
		return split{at: p.numbers[0], lots: p.numbers[1:], find: (*Works).Suspects}
	case "stop":
		return split{at: p.numbers[0], lots: p.numbers[1:], find: (*Works).Stop}
	default: // "audit"
		return audit{}
	}
}
