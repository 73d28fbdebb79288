package works

// Lots are made from lots with lower numbers, so that one pass over them, up or down, finds what follows from that.

// before returns the lots from which a lot comes.
func (f *floor) before(no int) set {
	found := f.lot(no).from
	for other := no - 1; other >= 1; other-- {
		if found.has(other) {
			found |= f.lot(other).from
		}
	}
	return found
}

// after returns the lots that come from a lot.
func (f *floor) after(no int) set {
	var found set
	for other := no + 1; other <= len(f.lots); other++ {
		if f.lot(other).from&(found|setOf(no)) != 0 {
			found |= setOf(other)
		}
	}
	return found
}

// dominators returns the lots that are on all ways to a lot: it, and those on all ways to each lot that it was made from.
func (f *floor) dominators(no int) set {
	found := make([]set, no+1)
	for lot := 1; lot <= no; lot++ {
		found[lot] = setOf(lot) | f.common(lot, found)
	}
	return found[no]
}

// common returns the lots that are in the sets of all lots that a lot was made from: none if it was made from none.
func (f *floor) common(no int, sets []set) set {
	from := f.lot(no).from.list()
	if len(from) == 0 {
		return 0
	}
	shared := everything
	for _, other := range from {
		shared &= sets[other]
	}
	return shared
}

// suspects returns the lots that are in all of bad, and in none of good.
func (f *floor) suspects(bad, good []int) set {
	found := everything
	for _, no := range bad {
		found &= f.before(no) | setOf(no)
	}
	for _, no := range good {
		found &^= f.before(no) | setOf(no)
	}
	return found
}
