package lsm

import (
	"sorrel/api"
	"sorrel/frame"
	"sorrel/fs"
	"sorrel/manifest"
	"sorrel/varint"
	"strconv"
	"strings"
)

// The files of an engine.
const (
	listName    = "edits"
	newListName = "edits.new"    // till it is whole, and takes the list's place
	logName     = "log-00000000" // the log's only file: with each new log the one ahead goes
	tablePrefix = "tab-"         // a table's number stands behind it
)

// maxListed is how many edits the list may have till it is made anew.
const maxListed = 32

// tableName is what the file of a table is called.
func tableName(id int) string {
	return tablePrefix + strconv.Itoa(id)
}

// tableId is the number of the table with a file's name, if it is a table's.
func tableId(name string) (int, bool) {
	digits, ok := strings.CutPrefix(name, tablePrefix)
	if !ok {
		return 0, false
	}
	id, err := strconv.Atoi(digits)
	if err != nil || id < 1 || tableName(id) != name {
		return 0, false
	}
	return id, true
}

// texts are those of the frames that a file has, of which a crash may have cut the last one off; false: it has something else.
func texts(d *fs.Disk, name string) ([]string, bool) {
	s, _ := d.Read(name)
	l, n := frame.All(s)
	return l, begins(s[n:])
}

// begins tells whether bytes may be the beginning of a frame that they do not have whole.
func begins(s string) bool {
	text, _, err := varint.TakeText(s)
	if err != api.OK {
		return err == api.ErrShort
	}
	whole, _ := frame.Put(text) // a text that was taken is never refused
	return strings.HasPrefix(whole, s)
}

// next is the number of the next table.
func (x *Engine) next() int {
	return max(1, x.state.Next)
}

// put makes a file of bytes that are sure.
func (x *Engine) put(name, s string) api.Errno {
	if err := x.disk.Make(name); err != api.OK {
		return err
	}
	return x.add(name, s)
}

// add puts bytes behind those of a file, and lets them be sure.
func (x *Engine) add(name, s string) api.Errno {
	if err := x.disk.Append(name, s); err != api.OK {
		return err
	}
	return x.disk.Sync(name)
}

// entry is an edit as the list has it: with the number of the last batch that is in tables behind it, so that of the log those above it count, whatever its files' numbers are.
func (x *Engine) entry(e api.Edit) string {
	// Neither a batch's number nor an edit that fits is refused, nor are they too long together.
	seq, _ := varint.Put(x.seq)
	text, _ := manifest.Put(e)
	s, _ := frame.Put(seq + text)
	return s
}

// list lets an edit be sure, behind which there is a state.
func (x *Engine) list(e api.Edit, s api.State) api.Errno {
	if x.listed < maxListed {
		x.listed++
		return x.add(listName, x.entry(e))
	}
	whole := api.Edit{Add: s.Tabs, Log: s.Log, Next: s.Next}
	if err := x.put(newListName, x.entry(whole)); err != api.OK {
		return err
	}
	x.listed = 1
	return x.disk.Rename(newListName, listName)
}

// spent tells whether a file is of no use any more.
func (x *Engine) spent(name string) bool {
	switch name {
	case newListName:
		return true
	case logName:
		return x.memory.Len() == 0
	}
	id, ok := tableId(name)
	return ok && x.tables[id] == nil
}

// sweep removes the files that are of no use any more.
func (x *Engine) sweep() api.Errno {
	for _, name := range x.disk.Names() {
		if !x.spent(name) {
			continue
		}
		if err := x.disk.Remove(name); err != api.OK {
			return err
		}
	}
	return api.OK
}
