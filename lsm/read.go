package lsm

import (
	"slices"
	"sorrel/api"
	"sorrel/block"
	"sorrel/manifest"
	"sorrel/merge"
	"sorrel/table"
	"sorrel/varint"
)

// read takes what an engine left on the disk, and does nothing there; false: no engine left that.
func (x *Engine) read() bool {
	names := x.disk.Names()
	if slices.Contains(names, listName) && !x.readList() {
		return false
	}
	for _, tab := range x.state.Tabs {
		if !x.readTable(tab) {
			return false
		}
	}
	if !x.readLog() || slices.ContainsFunc(names, x.foreign) {
		return false
	}
	// The list is made anew with the next edit: there may be none, or one that is cut off.
	x.listed = maxListed
	return x.readKept()
}

// readList takes the state, and the number of the last batch that is in tables.
func (x *Engine) readList() bool {
	l, ok := texts(x.disk, listName)
	if !ok || len(l) == 0 {
		return false
	}
	var edits []string
	for _, text := range l {
		seq, n, err := varint.Take(text)
		if err != api.OK || seq < x.seq || seq > api.MaxNumber {
			return false
		}
		x.seq = seq
		edits = append(edits, text[n:])
	}
	state, err := manifest.Replay(edits)
	x.state = state
	return err == api.OK
}

// readTable takes a table of the state.
func (x *Engine) readTable(tab api.Tab) bool {
	s, _ := x.disk.Read(tableName(tab.Id))
	t, err := table.Open(s)
	if err != api.OK {
		return false
	}
	x.tables[tab.Id] = t
	lo, hi := t.Ends()
	later := func(e api.Entry) bool {
		return e.Seq > x.seq
	}
	return lo == tab.Lo && hi == tab.Hi && !slices.ContainsFunc(t.Range(api.Span{}), later)
}

// readLog takes the batches that are in the log alone.
func (x *Engine) readLog() bool {
	l, ok := texts(x.disk, logName)
	last := 0
	for _, text := range l {
		batch, err := block.Take(text)
		if err != api.OK || len(batch) < 1 || len(batch) > api.MaxBatch {
			return false
		}
		n := batch[0].Seq
		other := func(e api.Entry) bool {
			return e.Seq != n
		}
		if slices.ContainsFunc(batch, other) || last > 0 && n != last+1 || n > x.seq+1 {
			return false
		}
		last = n
		// What is in tables already is in a log that was to be removed.
		if n > x.seq {
			x.take(batch)
		}
	}
	return ok
}

// foreign tells whether a file is none that an engine left.
func (x *Engine) foreign(name string) bool {
	switch name {
	case listName, logName:
		return false
	case newListName:
		_, ok := texts(x.disk, name)
		return !ok
	}
	id, ok := tableId(name)
	return !ok || id > x.next()
}

// readKept counts what must be kept.
func (x *Engine) readKept() bool {
	l, err := merge.Merge(x.lists(api.Span{}))
	x.kept = len(merge.Prune(l, x.pins, true))
	return err == api.OK && x.kept <= maxKept
}
