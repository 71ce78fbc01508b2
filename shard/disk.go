package shard

import (
	"sorrel/api"
	"sorrel/fs"
	"sorrel/lsm"
	"sorrel/varint"
	"strings"
)

// takeName is the file that says, while a Take is done in parts, what there is behind it.
const takeName = "take"

// power tells whether a disk is one, and has its power.
func power(d *fs.Disk) api.Errno {
	// Read is no doing: it takes nothing of a fuse.
	if _, err := d.Read(takeName); err != api.ErrNone {
		return err
	}
	return api.OK
}

// lay makes an engine of writes, on a disk without files.
func lay(d *fs.Disk, l []api.Write) (*lsm.Engine, api.Errno) {
	x, err := lsm.Open(d)
	if err != api.OK {
		return nil, err
	}
	err = parts(l, func(part []api.Write) api.Errno {
		_, err := x.Write(part)
		return err
	})
	if err != api.OK {
		return nil, err
	}
	return x, api.OK
}

// add puts a file of bytes that are sure onto a disk.
func add(d *fs.Disk, name, s string) api.Errno {
	if err := d.Make(name); err != api.OK {
		return err
	}
	if err := d.Append(name, s); err != api.OK {
		return err
	}
	return d.Sync(name)
}

// carry puts all files of a disk whose power is on onto another one.
func carry(from, to *fs.Disk) api.Errno {
	for _, name := range from.Names() {
		s, _ := from.Read(name)
		if err := add(to, name, s); err != api.OK {
			return err
		}
	}
	return api.OK
}

// textOf is writes of values as a text that a crash cuts off or leaves whole.
func textOf(l []api.Write) string {
	var b strings.Builder
	for _, w := range l {
		for _, x := range [...]string{w.Key, w.Value} {
			s, _ := varint.Text(x)
			b.WriteString(s)
		}
	}
	s, _ := varint.Text(b.String()) // there is no room for so many writes that it would be refused
	return s
}

// writesOf are the writes of such a text that is whole; false: it is of none, or not of a shard's content.
func writesOf(s string) ([]api.Write, bool) {
	r := reader{rest: s}
	var l []api.Write
	for !r.wrong && r.rest != "" {
		l = append(l, api.Write{Key: r.text(), Value: r.text()})
	}
	return l, !r.wrong && len(l) > 0 && l[len(l)-1].Key == shardKey
}

// finish does, on a disk whose power is on, what a Take that a crash broke off was to do, if its file is whole, and else takes that away.
func finish(d *fs.Disk) api.Errno {
	s, err := d.Read(takeName)
	if err != api.OK {
		return api.OK // there is none
	}
	text, n, err := varint.TakeText(s)
	switch {
	case err == api.ErrShort:
		return d.Remove(takeName) // no part was done yet
	case err != api.OK || n != len(s):
		return api.ErrArg
	}
	l, ok := writesOf(text)
	if !ok {
		return api.ErrArg
	}
	return remake(d, l)
}

// remake puts an engine of writes in the place of all files but that of a Take, and then takes that one away.
func remake(d *fs.Disk, l []api.Write) api.Errno {
	// The engine would refuse the Take's file, which has to stay till all others are sure: so it is made elsewhere.
	aside := fs.New()
	if _, err := lay(aside, l); err != api.OK {
		return api.ErrArg
	}
	for _, name := range d.Names() {
		if name == takeName {
			continue
		}
		if err := d.Remove(name); err != api.OK {
			return err
		}
	}
	if err := carry(aside, d); err != api.OK {
		return err
	}
	return d.Remove(takeName)
}
