package lsm

import (
	"sorrel/api"
	"sorrel/manifest"
	"sorrel/merge"
	"sorrel/sorted"
	"sorrel/span"
	"sorrel/table"
	"sorrel/wal"
)

const (
	lowest       = api.MaxLevels - 1
	levelTables  = 3   // with which a level need not sink
	levelEntries = 512 // with which a level need not sink
)

// each tells the tables: of each key those with newer entries first.
func (x *Engine) each(tell func(t *table.Table)) {
	// The state's order is this one: of a lower level, and of a greater number in level 0, is what is newer.
	for _, tab := range x.state.Tabs {
		tell(x.tables[tab.Id])
	}
}

// history are the entries of a key, the newest first.
func (x *Engine) history(key string) []api.Entry {
	fresh, _ := x.memory.Get(key)
	var l []api.Entry
	add := func(more []api.Entry) {
		l = append(l, more...)
	}
	add(fresh)
	x.each(func(t *table.Table) {
		if more, _ := t.Chunk(key, 1); len(more) > 0 && more[0].Key == key {
			add(more)
		}
	})
	return l
}

// fresh are the entries in memory whose keys are within a range.
func (x *Engine) fresh(r api.Span) []api.Entry {
	var l []api.Entry
	for key, more := range x.memory.From(r.Lo) {
		if !span.Has(r, key) {
			break
		}
		l = append(l, more...)
	}
	return l
}

// lists are the entries whose keys are within a range, place by place where they are.
func (x *Engine) lists(r api.Span) [][]api.Entry {
	lists := [][]api.Entry{x.fresh(r)}
	x.each(func(t *table.Table) {
		lists = append(lists, t.Range(r))
	})
	return lists
}

// within are the entries whose keys are within a range.
func (x *Engine) within(r api.Span) []api.Entry {
	l, _ := merge.Merge(x.lists(r)) // memory and levels never have more than may be merged
	return l
}

// level are a level's tables.
func (x *Engine) level(level int) []api.Tab {
	var l []api.Tab
	for _, tab := range x.state.Tabs {
		if tab.Level == level {
			l = append(l, tab)
		}
	}
	return l
}

// over tells whether a level has so much that it is to sink.
func (x *Engine) over(level int) bool {
	tabs := x.level(level)
	n := 0
	for _, tab := range tabs {
		n += x.tables[tab.Id].Len()
	}
	return len(tabs) > levelTables || n > levelEntries
}

// settle lays down what is in memory, lets levels sink, and the log begin anew.
func (x *Engine) settle(sinks func(level int) bool) api.Errno {
	if err := x.lay(); err != api.OK {
		return err
	}
	for level := range lowest {
		if !sinks(level) {
			continue
		}
		if err := x.sink(level); err != api.OK {
			return err
		}
	}
	return x.begin()
}

// lay makes a table of what is in memory.
func (x *Engine) lay() api.Errno {
	if x.memory.Len() == 0 {
		return api.OK
	}
	if err := x.change(x.fresh(api.Span{}), 0, nil); err != api.OK {
		return err
	}
	x.memory, x.logged = sorted.New[[]api.Entry](), 0
	return api.OK
}

// sink makes one table of the next level of all that a level and the next one have.
func (x *Engine) sink(level int) api.Errno {
	next := level + 1
	var lists [][]api.Entry
	var drop []int
	// All of the next level, also what has no key in common: no later one would come upon what a pin kept there.
	for _, tab := range append(x.level(level), x.level(next)...) {
		lists = append(lists, x.tables[tab.Id].Range(api.Span{}))
		drop = append(drop, tab.Id)
	}
	l, err := merge.Merge(lists)
	if err != api.OK {
		return err
	}
	return x.change(merge.Prune(l, x.pins, next == lowest), next, drop)
}

// change puts a table of entries into a level, if there are some, in place of others.
func (x *Engine) change(l []api.Entry, level int, drop []int) api.Errno {
	e := api.Edit{Drop: drop, Log: x.state.Log, Next: x.next()}
	if len(l) > 0 {
		e.Add = []api.Tab{{Id: e.Next, Level: level, Lo: l[0].Key, Hi: l[len(l)-1].Key}}
		e.Next++
	}
	state, err := manifest.Apply(x.state, e)
	if err != api.OK {
		return api.ErrFull // there is no number left for a table
	}
	for _, tab := range e.Add {
		if err := x.store(tab.Id, l); err != api.OK {
			return err
		}
	}
	if err := x.list(e, state); err != api.OK {
		return err
	}
	x.state = state
	for _, id := range drop {
		delete(x.tables, id)
	}
	return api.OK
}

// store lets a table of entries be sure.
func (x *Engine) store(id int, l []api.Entry) api.Errno {
	text, _ := table.Build(l) // what is refused is not opened
	t, err := table.Open(text)
	if err != api.OK {
		return err
	}
	if err := x.put(tableName(id), text); err != api.OK {
		return err
	}
	x.tables[id] = t
	return api.OK
}

// begin lets the log begin anew: what was in it is in tables.
func (x *Engine) begin() api.Errno {
	if err := x.sweep(); err != api.OK {
		return err
	}
	log, err := wal.Open(x.disk, 0)
	if err != api.OK {
		return err
	}
	x.log = log
	return api.OK
}
