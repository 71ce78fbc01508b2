package lsm_test

import (
	"math"
	"slices"
	"testing"

	"sorrel/api"
	"sorrel/block"
	"sorrel/frame"
	"sorrel/fs"
	"sorrel/lsm"
	"sorrel/manifest"
	"sorrel/table"
	"sorrel/varint"
)

// engine is an engine of nothing, with its disk, and a plain one beside it.
func engine(t *testing.T) (*fs.Disk, *lsm.Engine, *plain) {
	t.Helper()
	d := fs.New()
	return d, open(t, d), fresh()
}

// filled is an engine with tables in each level, and batches in its log.
func filled(t *testing.T) (*fs.Disk, *lsm.Engine, *plain) {
	t.Helper()
	d, x, p := engine(t)
	write(t, x, p, puts(0, 40, "low")...)
	ok(t, x.Compact())
	write(t, x, p, puts(10, 30, "mid")...)
	write(t, x, p, gone(key(5)), gone(key(12)))
	for range 3 {
		ok(t, x.Flush())
		write(t, x, p, puts(20, 4, "up")...)
	}
	ok(t, x.Flush())
	write(t, x, p, put(key(22), "upper"), gone(key(23)))
	ok(t, x.Flush())
	write(t, x, p, put(key(22), "top"), put("z", "1"))
	write(t, x, p, gone("z"), put("y", "2"), gone(key(30)))
	if n := x.Tables(); n[0] == 0 || n[1] == 0 || n[2] == 0 {
		t.Fatalf("Tables answered %v", n)
	}
	return d, x, p
}

// offBy lets a disk's power go off by what is none of an engine's doings.
func offBy(t *testing.T, d *fs.Disk) {
	t.Helper()
	ok(t, d.Fuse(0))
	is(t, "a doing behind a fuse of 0", d.Sync("none"), api.ErrOff)
}

func TestLs1NewEngine(t *testing.T) {
	_, x, p := engine(t)
	has(t, x, p)
	gets(t, x, p, "a", "\x00", of("z", mostKey))
	is(t, "Tables", x.Tables(), [api.MaxLevels]int{})
	write(t, x, p, put("a", "1"))
	has(t, x, p)
}

func TestLs1NoDisk(t *testing.T) {
	d := fs.New()
	copied := *d
	for _, d := range []*fs.Disk{nil, {}, &copied} {
		if x, err := lsm.Open(d); x != nil || err != api.ErrArg {
			t.Errorf("Open answered %v, %d", x, err)
		}
	}
	is(t, "how many files there are", len(d.Names()), 0)
}

func TestLs1Off(t *testing.T) {
	d := fs.New()
	offBy(t, d)
	notOpened(t, "a new disk", d, api.ErrOff)
	d, _, p := filled(t)
	offBy(t, d)
	notOpened(t, "an engine's disk", d, api.ErrOff)
	ok(t, d.Crash(nil))
	p.pins = nil
	has(t, open(t, d), p)
	d = fs.New()
	ok(t, d.Make("x"))
	offBy(t, d)
	notOpened(t, "another one's disk", d, api.ErrOff) // that is told first
}

// The power goes off at each doing of Open: it is refused, and what was done is there behind the crash.
func TestLs1GoesOff(t *testing.T) {
	d, _, p := filled(t)
	fuse := 0
	for ; ; fuse++ {
		c := twin(t, d)
		ok(t, c.Fuse(fuse))
		x, err := lsm.Open(c)
		if err == api.OK {
			has(t, x, p)
			break
		}
		if x != nil || err != api.ErrOff {
			t.Fatalf("Open with a fuse of %d answered %v, %d", fuse, x, err)
		}
		ok(t, c.Crash([]int{fuse, math.MaxInt, 0}))
		has(t, open(t, c), p)
	}
	if fuse < 3 {
		t.Errorf("Open had %d doings alone", fuse)
	}
}

// As often as it is opened, and wherever that ends, the disk does not fill up.
func TestLs1FilesDoNotGrow(t *testing.T) {
	d, _, p := filled(t)
	c := chance(1)
	for i := range 2000 {
		ok(t, d.Fuse(c.below(14)))
		x, err := lsm.Open(d)
		for err == api.OK {
			l := c.batch(1+c.below(3), 60)
			if _, err = x.Write(l); err == api.OK {
				p.write(l)
			}
		}
		is(t, "the last call", err, api.ErrOff)
		ok(t, d.Crash(nil))
		if n := len(d.Names()); n > 12 {
			t.Fatalf("there are %d files behind %d crashes: %q", n, i, d.Names())
		}
	}
	has(t, open(t, d), p)
}

func TestLs1NothingIsPinned(t *testing.T) {
	for _, crash := range []bool{false, true} {
		d, x, p := engine(t)
		write(t, x, p, put("a", "1"))
		at := pin(t, x, p)
		pin(t, x, p)
		write(t, x, p, put("a", "2"))
		ok(t, x.Flush())
		if crash {
			ok(t, d.Crash(nil))
		}
		x, p.pins = open(t, d), nil
		has(t, x, p)
		is(t, "Unpin", x.Unpin(at), api.ErrNone)
		if v, there, err := x.Get("a", at); v != "" || there || err != api.ErrNone {
			t.Errorf("Get answered %q, %t, %d", v, there, err)
		}
		for range mostPins {
			pin(t, x, p)
		}
		has(t, x, p)
	}
}

// Files that no engine makes, whatever else is there: what is refused is left as it is.
func TestLs1OtherFiles(t *testing.T) {
	names := []string{
		"x", "a", "0", "-", ".", "edit", "edits2", "edits.", "edits.new2", "edits.old", "log", "log-", "log-0", "log-0000000", "log-00000001", "log-00000002",
		"log-000000000", "log-99999999", "log-0000000a", "tab", "tab-", "tab-0", "tab-00", "tab-01", "tab--1", "tab-a", "tab-1a", "tab-.1", "tab-99", "tab-1073741824",
		"tab-9223372036854775807", "tab-9223372036854775808", "tab-18446744073709551617", "xtab-1", of("z", 32),
	}
	for _, name := range names {
		for _, s := range []string{"", "x"} {
			d := fs.New()
			lay(t, d, name, s, "")
			notOpened(t, name+" alone", d, api.ErrArg)
			d, _, p := filled(t)
			lay(t, d, name, s, "")
			notOpened(t, name, d, api.ErrArg)
			ok(t, d.Remove(name))
			has(t, open(t, d), p)
		}
	}
}

// with is a disk with another file in place of one.
func with(t *testing.T, d *fs.Disk, name, s string) *fs.Disk {
	t.Helper()
	c := twin(t, d)
	c.Remove(name)
	lay(t, c, name, s, "")
	return c
}

// tables are the names of a disk's tables.
func tables(t *testing.T, d *fs.Disk) []string {
	t.Helper()
	var l []string
	for _, name := range d.Names() {
		if name[0] == 't' {
			l = append(l, name)
		}
	}
	if len(l) < 3 {
		t.Fatalf("the files are %q", d.Names())
	}
	return l
}

// A table that is missing, is cut off, has other bytes, or stands in another one's place, was not left so.
func TestLs1OtherTables(t *testing.T) {
	d, _, _ := filled(t)
	names := tables(t, d)
	for i, name := range names {
		s, _ := d.Read(name)
		c := twin(t, d)
		ok(t, c.Remove(name))
		notOpened(t, "without "+name, c, api.ErrArg)
		other, _ := d.Read(names[(i+1)%len(names)])
		notOpened(t, "another table as "+name, with(t, d, name, other), api.ErrArg)
		notOpened(t, name+" and more", with(t, d, name, s+"\x00"), api.ErrArg)
		for n := range len(s) {
			notOpened(t, name+" cut off", with(t, d, name, s[:n]), api.ErrArg)
			b := []byte(s)
			b[n] ^= 1 << (n % 8)
			notOpened(t, name+" with another byte", with(t, d, name, string(b)), api.ErrArg)
		}
	}
}

// turnedAt are bytes of which one is another one: below 0, counted from the end.
func turnedAt(s string, i int) string {
	b := []byte(s)
	b[(i+len(b))%len(b)] ^= 1
	return string(b)
}

// turned are bytes of which one in the midst is another one.
func turned(s string) string {
	return turnedAt(s, len(s)/2)
}

// batch is a batch as the log has it.
func batch(t *testing.T, l ...api.Entry) string {
	t.Helper()
	s, err := block.Put(l)
	ok(t, err)
	return s
}

// entries are so many, of neighbours' keys.
func entries(n, seq int) []api.Entry {
	var l []api.Entry
	for i := range n {
		l = append(l, api.Entry{Key: key(i), Value: "x", Seq: seq})
	}
	return l
}

// frames are texts as frames, one behind the other.
func frames(t *testing.T, l ...string) string {
	t.Helper()
	all := ""
	for _, s := range l {
		f, err := frame.Put(s)
		ok(t, err)
		all += f
	}
	return all
}

// listed is an edit as the list has it.
func listed(t *testing.T, seq int, e api.Edit) string {
	t.Helper()
	n, err := varint.Put(seq)
	ok(t, err)
	s, err := manifest.Put(e)
	ok(t, err)
	return n + s
}

func TestLs1OtherLists(t *testing.T) {
	d, _, p := filled(t)
	s, err := d.Read("edits")
	ok(t, err)
	texts, n := frame.All(s)
	if n != len(s) || len(texts) < 3 {
		t.Fatalf("the list has %d edits", len(texts))
	}
	tabs := frames(t, listed(t, 1, api.Edit{Add: []api.Tab{{Id: 1, Lo: "a", Hi: "b"}}, Next: 2}))
	for what, other := range map[string]string{
		"no list":                       "",
		"a list cut off at its first":   s[:9],
		"an edit with another byte":     "\x00" + s[1:],
		"a text that is none":           frames(t, ""),
		"a number alone":                frames(t, "\x01"),
		"an edit without a number":      frames(t, texts[0][1:]),
		"an edit with more":             frames(t, texts[0]+"\x00"),
		"one edit twice":                frames(t, append([]string{texts[0]}, texts...)...),
		"edits in another order":        frames(t, texts[1], texts[0], texts[2]),
		"a number of batches that fell": s + frames(t, listed(t, 0, api.Edit{Next: 1 << 30})),
		"too great a number":            s + frames(t, listed(t, mostNumber+1, api.Edit{Next: 1 << 30})),
		"a table that is not there":     tabs,
		"bytes behind that begin none":  s + "\xff\xff\xff\xff\xff\xff\xff\xff\xff",
		"bytes cut off that end none":   s + turnedAt(frames(t, texts[2]), -4)[:len(frames(t, texts[2]))-1],
		"bytes behind that end none":    s + turned(frames(t, texts[2])),
		"another byte in the midst":     turned(frames(t, texts[0])) + s[len(frames(t, texts[0])):],
	} {
		notOpened(t, what, with(t, d, "edits", other), api.ErrArg)
	}
	c := twin(t, d)
	ok(t, c.Remove("edits"))
	notOpened(t, "without a list", c, api.ErrArg)
	notOpened(t, "an empty list alone", with(t, fs.New(), "edits", ""), api.ErrArg)
	for _, text := range []string{"", "\x05", "\x05\x00\x00\x00", listed(t, 5, api.Edit{Next: 1})[1:] + "\x80"} {
		notOpened(t, "a list of no edit alone", with(t, fs.New(), "edits", frames(t, text)), api.ErrArg)
	}
	four, five := listed(t, 4, api.Edit{Next: 1}), listed(t, 5, api.Edit{Next: 1})
	notOpened(t, "a number that fell", with(t, fs.New(), "edits", frames(t, five, four)), api.ErrArg)
	is(t, "Seq", open(t, with(t, fs.New(), "edits", frames(t, four, five))).Seq(), 5)
	last := frames(t, listed(t, p.seq, api.Edit{Next: 1 << 30}))
	for n := range len(last) { // a crash may cut off the last one, and an edit that was being written anew
		has(t, open(t, with(t, d, "edits", s+last[:n])), p)
		has(t, open(t, with(t, d, "edits.new", last[:n])), p)
	}
	has(t, open(t, with(t, d, "edits.new", last)), p)
	notOpened(t, "a new list of other bytes", with(t, d, "edits.new", turned(last)), api.ErrArg)
}

// The log's bytes are batches, one behind the other; a crash may have cut off the last one.
func TestLs1OtherLogs(t *testing.T) {
	const name = "log-00000000"
	d, x, p := filled(t)
	write(t, x, p, put("x", "3"))
	s, err := d.Read(name)
	ok(t, err)
	texts, _ := frame.All(s)
	is(t, "how many batches are in the log", len(texts), 3)
	for what, other := range map[string]string{
		"a text that is none":     frames(t, texts[0], "x"),
		"one without entries":     frames(t, batch(t)),
		"one of two numbers":      frames(t, batch(t, api.Entry{Key: "a", Seq: 8}, api.Entry{Key: "b", Seq: 9})),
		"one of too many entries": frames(t, batch(t, entries(mostWrites+1, 8)...)),
		"one twice":               frames(t, texts[0], texts[0], texts[1]),
		"one missing":             frames(t, texts[0], texts[2]),
		"the first one missing":   frames(t, texts[1], texts[2]),
		"in another order":        frames(t, texts[1], texts[0], texts[2]),
		"bytes that begin none":   s + "\xff\xff\xff\xff\xff\xff\xff\xff\xff",
		"other bytes in the last": s[:len(s)-1] + "\x00",
		"other bytes ahead":       turned(frames(t, texts[0])) + frames(t, texts[1:]...),
	} {
		notOpened(t, what, with(t, d, name, other), api.ErrArg)
	}
	one := frames(t, batch(t, api.Entry{Key: "a", Seq: 8}, api.Entry{Key: "b", Seq: 8}))
	is(t, "Seq behind one more", open(t, with(t, d, name, one)).Seq(), 8)
	one = frames(t, batch(t, entries(mostWrites, 8)...))
	is(t, "Seq behind one of as many as may be", open(t, with(t, d, name, one)).Seq(), 8)
	was := p.clone()
	was.seq--
	delete(was.done, "x")
	begin := len(frames(t, texts[:2]...))
	for n := begin; n < len(s); n++ {
		has(t, open(t, with(t, d, name, s[:n])), was)
	}
	has(t, open(t, with(t, d, name, s)), p)
}

// What is in tables is in them once, also where the log that had it is still there; and an engine may be opened anew at any time.
func TestLs1LogThatWasToBeRemoved(t *testing.T) {
	const name = "log-00000000"
	d, x, p := engine(t)
	write(t, x, p, put("a", "1"), put("b", "2"))
	write(t, x, p, gone("a"))
	s, err := d.Read(name)
	ok(t, err)
	ok(t, x.Compact())
	c := with(t, d, name, s)
	x = open(t, c)
	has(t, x, p)
	write(t, x, p, put("c", "3"))
	x = open(t, c)
	has(t, x, p)
	has(t, open(t, c), p)
}

// A disk whose tables have numbers, and batches, that are not those of its list.
func TestLs1TablesOfOthers(t *testing.T) {
	d, x, p := engine(t)
	write(t, x, p, put("a", "1"))
	write(t, x, p, put("a", "2"))
	ok(t, x.Flush())
	add := func(id, level int, lo, hi string) api.Edit {
		return api.Edit{Add: []api.Tab{{Id: id, Level: level, Lo: lo, Hi: hi}}, Next: id + 1}
	}
	has(t, open(t, with(t, d, "edits", frames(t, listed(t, 2, add(1, 0, "a", "a"))))), p)
	has(t, open(t, with(t, d, "edits", frames(t, listed(t, 2, add(1, 2, "a", "a"))))), p)
	for what, edit := range map[string]string{
		"a lesser number of batches": listed(t, 1, add(1, 0, "a", "a")),
		"another least key":          listed(t, 2, add(1, 0, "0", "a")),
		"another greatest key":       listed(t, 2, add(1, 0, "a", "b")),
		"another number":             listed(t, 2, add(2, 0, "a", "a")),
	} {
		notOpened(t, what, with(t, d, "edits", frames(t, edit)), api.ErrArg)
	}
}

// A table of more than must be kept is no engine's.
func TestLs1TooManyEntries(t *testing.T) {
	for n, want := range map[int]api.Errno{mostKept: api.OK, mostKept + 1: api.ErrArg, mostEntries: api.ErrArg} {
		s, err := table.Build(entries(n, 7))
		ok(t, err)
		d := with(t, fs.New(), "tab-1", s)
		e := api.Edit{Add: []api.Tab{{Id: 1, Level: 2, Lo: key(0), Hi: key(n - 1)}}, Next: 2}
		d = with(t, d, "edits", frames(t, listed(t, 7, e)))
		if x, err := lsm.Open(d); (x == nil) != (want != api.OK) || err != want {
			t.Errorf("Open of %d entries answered %v, %d", n, x, err)
		}
	}
}

func TestLs2Write(t *testing.T) {
	_, x, p := engine(t)
	for _, l := range [][]api.Write{
		{put("a", "")},
		{put("\x00", "\x00")},
		{gone("b")},
		{put(of("k", mostKey), of("v", mostValue))},
		{gone(of("k", mostKey))},
		puts(0, mostWrites, "x"),
		{put("a", "1"), gone("a"), put("b", "2")},
	} {
		write(t, x, p, l...)
		has(t, x, p)
		gets(t, x, p, p.keys()...)
	}
}

func TestLs2LastWriteOfAKeyCounts(t *testing.T) {
	_, x, p := engine(t)
	write(t, x, p, put("b", "1"), put("a", "2"), put("b", "3"))
	at := pin(t, x, p)
	gets(t, x, p, "a", "b")
	write(t, x, p, put("a", "4"), gone("a"), gone("b"), put("b", ""), put("c", "5"), put("c", "5"), gone("d"), gone("d"))
	gets(t, x, p, "a", "b", "c", "d")
	has(t, x, p)
	var twice []api.Write
	for range mostWrites {
		twice = append(twice, put("a", "6"))
	}
	write(t, x, p, twice...)
	has(t, x, p)
	want := []api.Entry{{Key: "a", Value: "6", Seq: 3}, {Key: "b", Seq: 2}, {Key: "c", Value: "5", Seq: 2}, {Key: "d", Gone: true, Seq: 2}}
	if l, err := x.Changes(at); !slices.Equal(l, want) || err != api.OK {
		t.Errorf("Changes answered %v, %d", l, err)
	}
}

// badBatches are batches that may not be.
func badBatches() map[string][]api.Write {
	return map[string][]api.Write{
		"no batch":            nil,
		"an empty batch":      {},
		"too many writes":     puts(0, mostWrites+1, "x"),
		"many more":           puts(0, 5000, "x"),
		"no key":              {put("", "x")},
		"no key, gone":        {gone("")},
		"too long a key":      {put(of("k", mostKey+1), "x")},
		"too long a value":    {put("a", of("v", mostValue+1))},
		"gone with a value":   {{Key: "a", Value: "x", Gone: true}},
		"the last one":        {put("a", "1"), put("b", "2"), put("", "3")},
		"one that won't last": {put("a", of("v", mostValue+1)), put("a", "x")},
		"gone, won't last":    {{Key: "a", Value: "x", Gone: true}, put("a", "x")},
	}
}

func TestLs2BatchesThatMayNotBe(t *testing.T) {
	d, x, p := filled(t)
	before := files(d)
	for what, l := range badBatches() {
		if n, err := x.Write(l); n != 0 || err != api.ErrArg {
			t.Errorf("%s: Write answered %d, %d", what, n, err)
		}
	}
	if !slices.Equal(files(d), before) {
		t.Error("what was refused changed the files")
	}
	has(t, x, p)
	for n := mostKept - p.kept(); n > 0; n -= min(n, mostWrites) {
		write(t, x, p, puts(1000+n, min(n, mostWrites), "x")...)
	}
	full(t, x, p, put("more", "x"))
	offBy(t, d)
	full(t, x, p, put("more", "x")) // that is told ahead of the power
	for what, l := range badBatches() {
		if n, err := x.Write(l); n != 0 || err != api.ErrArg { // that is told first
			t.Errorf("%s: Write answered %d, %d", what, n, err)
		}
	}
	if n, err := x.Write([]api.Write{put(key(0), "x")}); n != 0 || err != api.ErrOff {
		t.Errorf("Write answered %d, %d", n, err)
	}
}

// fill lets so many keys have a value, batch by batch.
func fill(t *testing.T, x *lsm.Engine, p *plain, n int) {
	t.Helper()
	for from := 0; from < n; from += mostWrites {
		write(t, x, p, puts(from, min(mostWrites, n-from), "x")...)
	}
}

func TestLs2FullOfKeys(t *testing.T) {
	for _, settled := range []func(x *lsm.Engine) api.Errno{
		func(x *lsm.Engine) api.Errno { return api.OK }, (*lsm.Engine).Flush, (*lsm.Engine).Compact,
	} {
		d, x, p := engine(t)
		fill(t, x, p, mostKept-1)
		ok(t, settled(x))
		full(t, x, p, put("a", "1"), put("b", "2"))
		write(t, x, p, put("a", "1"))
		is(t, "how many must be kept", p.kept(), mostKept)
		ok(t, settled(x))
		full(t, x, p, put("b", "1"))
		has(t, x, p)
		write(t, x, p, put("a", "2")) // in place of another one
		write(t, x, p, gone("a"), put("b", "3"))
		write(t, x, p, gone("none"))
		full(t, x, p, put("a", "1"))
		full(t, x, p, put(key(0), "y"), put("a", "1")) // whole, or not at all
		ok(t, settled(x))
		has(t, x, p)
		write(t, x, p, gone(key(0)), gone(key(1)))
		write(t, x, p, put("a", "4"), put("c", "5"))
		full(t, x, p, put("d", "6"))
		has(t, x, p)
		x = open(t, d)
		full(t, x, p, put("d", "6"))
		write(t, x, p, gone("c"))
		write(t, x, p, put("d", "6"))
		full(t, x, p, put("e", "7"))
		has(t, x, p)
	}
}

// What a pin keeps counts, also that a key is gone, till it is taken away, or the engine is opened anew.
func TestLs2FullOfPins(t *testing.T) {
	for _, settled := range []func(x *lsm.Engine) api.Errno{
		func(x *lsm.Engine) api.Errno { return api.OK }, (*lsm.Engine).Flush, (*lsm.Engine).Compact,
	} {
		d, x, p := engine(t)
		fill(t, x, p, 300)
		at := pin(t, x, p)
		pin(t, x, p)
		for i := range 212 {
			if i%2 == 0 {
				write(t, x, p, gone(key(i)))
			} else {
				write(t, x, p, put(key(i), "y"))
			}
		}
		ok(t, settled(x))
		is(t, "how many must be kept", p.kept(), mostKept)
		full(t, x, p, gone(key(250)))
		full(t, x, p, put(key(250), "y"))
		full(t, x, p, gone("none")) // that it is gone is changed since
		write(t, x, p, put(key(0), "z"), gone(key(1)))
		has(t, x, p)
		ok(t, settled(x))
		unpin(t, x, p, at)
		full(t, x, p, gone("none"))
		other := pin(t, x, p)
		full(t, x, p, put(key(1), "z")) // as of now there is one more
		unpin(t, x, p, at)
		write(t, x, p, gone("none"), put(key(250), "y"))
		unpin(t, x, p, other)
		fill(t, x, p, mostKept)
		full(t, x, p, put("a", "1"))
		has(t, x, p)
		pin(t, x, p)
		full(t, x, p, put(key(1), "z"))
		x, p.pins = open(t, d), nil
		write(t, x, p, put(key(1), "z"))
		full(t, x, p, put("a", "1"))
		has(t, x, p)
	}
}

// Behind so many batches there is none more.
func TestLs2FullOfBatches(t *testing.T) {
	d, x, p := engine(t)
	ok(t, x.Flush())
	c := with(t, d, "edits", frames(t, listed(t, mostNumber-2, api.Edit{Next: 1})))
	x, p.seq = open(t, c), mostNumber-2
	has(t, x, p)
	write(t, x, p, put("a", "1"))
	write(t, x, p, put("a", "2"), put("b", "3"))
	is(t, "Seq", x.Seq(), mostNumber)
	for range 2 {
		full(t, x, p, put("a", "4"))
		full(t, x, p, gone("a"))
		if n, err := x.Write([]api.Write{put("", "4")}); n != 0 || err != api.ErrArg {
			t.Errorf("Write answered %d, %d", n, err)
		}
		ok(t, x.Compact())
		has(t, x, p)
		x = open(t, c)
		has(t, x, p)
	}
}

func TestLs2Get(t *testing.T) {
	_, x, p := engine(t)
	write(t, x, p, put("a", "1"), put(of("k", mostKey), "2"))
	for _, key := range []string{"", of("k", mostKey+1), of("k", 1<<20)} {
		for _, at := range []int{1, 0, 9} {
			if v, there, err := x.Get(key, at); v != "" || there || err != api.ErrArg {
				t.Errorf("Get(%.9q, %d) answered %q, %t, %d", key, at, v, there, err)
			}
		}
	}
	write(t, x, p, put("a", "3"))
	for _, at := range []int{1, 0, -1, 3, math.MinInt, math.MaxInt} {
		if v, there, err := x.Get("a", at); v != "" || there || err != api.ErrNone {
			t.Errorf("Get(a, %d) answered %q, %t, %d", at, v, there, err)
		}
	}
	gets(t, x, p, "a", "b", of("k", mostKey), of("k", mostKey-1))
}

func TestLs2GetAsOfNothing(t *testing.T) {
	_, x, p := engine(t)
	is(t, "Pin", pin(t, x, p), 0)
	gets(t, x, p, "a")
	write(t, x, p, put("a", "1"))
	write(t, x, p, put("a", "2"))
	gets(t, x, p, "a")
	has(t, x, p)
	ok(t, x.Compact())
	gets(t, x, p, "a")
	has(t, x, p)
	unpin(t, x, p, 0)
	if _, _, err := x.Get("a", 0); err != api.ErrNone {
		t.Errorf("Get answered %d", err)
	}
}

func TestLs2Scan(t *testing.T) {
	_, x, p := filled(t)
	at := pin(t, x, p)
	write(t, x, p, put("a", "1"), gone(key(7)), put(key(8), "new"))
	ends := []string{"", "\x00", "a", key(0), key(4), key(5), key(6), key(8), key(12), key(29), key(39), "l", "y", "z", of("\xff", mostKey)}
	for _, lo := range ends {
		for _, hi := range ends {
			if hi != "" && lo >= hi {
				continue
			}
			for _, most := range []int{0, 1, 2, 7, 36, 37, 38, 39, 40, mostEntries} {
				for _, as := range []int{p.seq, at} {
					got, err := x.Scan(api.Span{Lo: lo, Hi: hi}, as, most)
					if want := p.scan(lo, hi, as, most); !slices.Equal(got, want) || err != api.OK {
						t.Fatalf("Scan(%.9q, %.9q, %d, %d) answered %v, %d; not %v", lo, hi, as, most, got, err, want)
					}
				}
			}
		}
	}
}

func TestLs2ScanRefused(t *testing.T) {
	_, x, p := filled(t)
	refused := func(r api.Span, at, most int, want api.Errno) {
		t.Helper()
		if l, err := x.Scan(r, at, most); len(l) != 0 || err != want {
			t.Errorf("Scan(%.9q, %.9q, %d, %d) answered %v, %d; not %d", r.Lo, r.Hi, at, most, l, err, want)
		}
	}
	for _, at := range []int{p.seq, p.seq - 1} {
		for _, r := range []api.Span{
			{Lo: "b", Hi: "a"}, {Lo: "a", Hi: "a"}, {Lo: "a", Hi: "\x00"}, {Lo: of("k", mostKey+1)}, {Hi: of("k", mostKey+1)}, {Lo: "b", Hi: of("a", mostKey)},
		} {
			refused(r, at, 9, api.ErrArg)
		}
		for _, most := range []int{-1, mostEntries + 1, math.MinInt, math.MaxInt} {
			refused(api.Span{}, at, most, api.ErrArg)
		}
	}
	for _, at := range []int{p.seq - 1, p.seq + 1, 0, -1, math.MinInt, math.MaxInt} {
		refused(api.Span{}, at, 9, api.ErrNone)
		refused(api.Span{}, at, 0, api.ErrNone)
	}
	has(t, x, p)
}

func TestLs2Pins(t *testing.T) {
	_, x, p := engine(t)
	write(t, x, p, put("a", "1"))
	first := pin(t, x, p)
	pin(t, x, p)
	write(t, x, p, gone("a"), put("b", "2"))
	second := pin(t, x, p)
	write(t, x, p, put("a", "3"))
	pin(t, x, p)
	has(t, x, p)
	for range 3 {
		if n, err := x.Pin(); n != 0 || err != api.ErrFull {
			t.Errorf("Pin answered %d, %d", n, err)
		}
	}
	for _, at := range []int{0, -1, 4, math.MinInt, math.MaxInt} {
		is(t, "Unpin", x.Unpin(at), api.ErrNone)
	}
	has(t, x, p)
	unpin(t, x, p, first)
	has(t, x, p) // it is pinned once yet
	unpin(t, x, p, first)
	is(t, "Unpin", x.Unpin(first), api.ErrNone)
	if _, _, err := x.Get("a", first); err != api.ErrNone {
		t.Errorf("Get answered %d", err)
	}
	if l, err := x.Changes(first); len(l) != 0 || err != api.ErrNone {
		t.Errorf("Changes answered %v, %d", l, err)
	}
	has(t, x, p)
	pin(t, x, p)
	pin(t, x, p)
	if n, err := x.Pin(); n != 0 || err != api.ErrFull {
		t.Errorf("Pin answered %d, %d", n, err)
	}
	unpin(t, x, p, second)
	is(t, "Unpin", x.Unpin(second), api.ErrNone)
	has(t, x, p)
}

// A number that is pinned often counts as often.
func TestLs2PinsOfOneNumber(t *testing.T) {
	_, x, p := engine(t)
	for range mostPins {
		pin(t, x, p)
	}
	if n, err := x.Pin(); n != 0 || err != api.ErrFull {
		t.Errorf("Pin answered %d, %d", n, err)
	}
	write(t, x, p, put("a", "1"))
	for range mostPins {
		has(t, x, p)
		unpin(t, x, p, 0)
	}
	is(t, "Unpin", x.Unpin(0), api.ErrNone)
	has(t, x, p)
}

func TestLs2Changes(t *testing.T) {
	_, x, p := filled(t)
	if l, err := x.Changes(p.seq); len(l) != 0 || err != api.ErrNone { // not pinned
		t.Errorf("Changes answered %v, %d", l, err)
	}
	at := pin(t, x, p)
	if l, err := x.Changes(at); len(l) != 0 || err != api.OK {
		t.Errorf("Changes answered %v, %d", l, err)
	}
	write(t, x, p, put(key(3), "1"), gone(key(4)), gone("none"))
	write(t, x, p, put(key(3), "2"), put("new", "3"))
	later := pin(t, x, p)
	write(t, x, p, gone("new"), put(key(4), "4"))
	for _, settled := range []func() api.Errno{func() api.Errno { return api.OK }, x.Flush, x.Compact} {
		ok(t, settled())
		has(t, x, p)
	}
	for _, at := range []int{at - 1, later + 1, 0, -1, math.MaxInt} {
		if l, err := x.Changes(at); len(l) != 0 || err != api.ErrNone {
			t.Errorf("Changes(%d) answered %v, %d", at, l, err)
		}
	}
}

func TestLs3NothingChanges(t *testing.T) {
	for _, settled := range []func(x *lsm.Engine) api.Errno{(*lsm.Engine).Flush, (*lsm.Engine).Compact} {
		d, x, p := filled(t)
		pin(t, x, p)
		write(t, x, p, gone(key(9)), put(key(22), "pinned"))
		for range 3 {
			ok(t, settled(x))
			has(t, x, p)
			gets(t, x, p, p.keys()...)
		}
		pin(t, x, p)
		write(t, x, p, gone(key(22)), put(key(9), ""))
		ok(t, settled(x))
		has(t, x, p)
		p.pins = nil
		has(t, open(t, d), p)
	}
	_, x, p := engine(t) // also of nothing
	ok(t, x.Flush(), x.Compact(), x.Flush())
	has(t, x, p)
	is(t, "Tables", x.Tables(), [api.MaxLevels]int{})
}

// Behind Flush, and Compact, a disk without the log has all that was done.
func TestLs3NoBatchIsInTheLogAlone(t *testing.T) {
	for _, settled := range []func(x *lsm.Engine) api.Errno{(*lsm.Engine).Flush, (*lsm.Engine).Compact} {
		d, x, p := filled(t)
		write(t, x, p, gone(key(9)))
		ok(t, settled(x))
		ok(t, d.Remove("log-00000000"))
		has(t, open(t, d), p)
	}
}

func TestLs3Tables(t *testing.T) {
	_, x, p := engine(t)
	write(t, x, p, put("a", "1"))
	ok(t, x.Flush())
	is(t, "Tables behind Flush", x.Tables(), [api.MaxLevels]int{1})
	ok(t, x.Flush())
	is(t, "Tables behind Flush of nothing", x.Tables(), [api.MaxLevels]int{1})
	write(t, x, p, put("b", "1"))
	ok(t, x.Compact())
	if n := x.Tables(); n[0] != 0 || n[1]+n[2] == 0 {
		t.Errorf("Tables behind Compact answered %v", n)
	}
	ok(t, x.Compact())
	has(t, x, p)
	write(t, x, p, gone("a"), gone("b"))
	ok(t, x.Compact())
	is(t, "Tables of nothing", x.Tables(), [api.MaxLevels]int{})
	has(t, x, p)
	c := chance(3)
	for i := range 600 {
		write(t, x, p, c.batch(1+c.below(9), 99)...)
		if i%7 == 0 {
			ok(t, x.Flush())
		}
		if n := x.Tables(); n[0] > 9 || n[1] > 9 || n[2] > 9 {
			t.Fatalf("Tables answered %v", n)
		}
		if i%50 == 0 {
			ok(t, x.Compact())
			is(t, "Tables of level 0 behind Compact", x.Tables()[0], 0)
			has(t, x, p)
		}
	}
}

// However much is written, it is never too much for a log, or a level.
func TestLs3MuchIsWritten(t *testing.T) {
	d, x, p := engine(t)
	for i := range 600 {
		var l []api.Write
		for n := range mostWrites {
			l = append(l, put(of(string(rune('0'+n)), mostKey), of(string(rune('a'+i%26)), mostValue)))
		}
		write(t, x, p, l...)
	}
	has(t, x, p)
	x = open(t, d)
	has(t, x, p)
	for i := range 3000 { // keys that are never asked for again, gone at once, or behind a while
		write(t, x, p, put(key(i), "x"), put(key(i+5000), "y"), gone(key(i+5000)))
		if i >= 100 {
			write(t, x, p, gone(key(i-100)))
		}
		if i%500 == 0 {
			has(t, x, p)
		}
	}
	has(t, x, p)
	has(t, open(t, d), p)
}

// Where the log has room, a batch is two doings of the disk.
func TestLs3DoingsOfABatch(t *testing.T) {
	d, x, p := engine(t)
	for range 3 {
		for i := range 200 {
			ok(t, d.Fuse(2))
			write(t, x, p, put(key(i), "x"))
		}
		ok(t, d.Fuse(-1), x.Flush())
	}
	has(t, x, p)
}

func TestLs3Off(t *testing.T) {
	for _, settled := range []func(x *lsm.Engine) api.Errno{(*lsm.Engine).Flush, (*lsm.Engine).Compact} {
		d, x, p := filled(t)
		offBy(t, d)
		is(t, "with the power off", settled(x), api.ErrOff)
		ok(t, d.Crash(nil))
		has(t, open(t, d), p)
		for _, d := range []*fs.Disk{fs.New(), d} {
			x := open(t, d)
			ok(t, settled(x))
			offBy(t, d)
			is(t, "with the power off, and nothing to lay down", settled(x), api.ErrOff)
		}
	}
}

// What is asked needs no disk.
func TestLs2AskedWithThePowerOff(t *testing.T) {
	d, x, p := filled(t)
	pin(t, x, p)
	offBy(t, d)
	has(t, x, p)
	gets(t, x, p, p.keys()...)
	unpin(t, x, p, p.seq)
	pin(t, x, p)
	has(t, x, p)
	if n := x.Tables(); n[0] == 0 {
		t.Errorf("Tables answered %v", n)
	}
}

// What a disk has no room for is refused; the engine that is opened then has what was done.
func TestLs3DiskIsFull(t *testing.T) {
	for room := range 6 {
		for _, settled := range []func(x *lsm.Engine) api.Errno{(*lsm.Engine).Flush, (*lsm.Engine).Compact} {
			d, x, p := filled(t)
			var others []string
			for n := len(d.Names()); n < api.MaxFiles-room; n++ {
				others = append(others, "other-"+key(n))
				ok(t, d.Make(others[len(others)-1]))
			}
			err := settled(x)
			if err != api.ErrFull && (err != api.OK || room == 0) || err != api.OK && room == 5 {
				t.Errorf("with room for %d files a call answered %d", room, err)
			}
			for _, name := range others {
				ok(t, d.Remove(name))
			}
			has(t, open(t, d), p)
		}
	}
}

// asked tells calls of an engine that Open did not give, and that answer all the same.
func asked(t *testing.T, x *lsm.Engine) {
	t.Helper()
	n, err := x.Write([]api.Write{put("a", "1")})
	is(t, "Write", n, 0)
	is(t, "Write", err, api.ErrArg)
	n, err = x.Write(nil)
	is(t, "Write", n, 0)
	is(t, "Write", err, api.ErrArg)
	is(t, "Seq", x.Seq(), 0)
	for _, at := range []int{0, 1, -1, math.MaxInt} {
		v, there, err := x.Get("a", at)
		is(t, "Get", v, "")
		is(t, "Get", there, false)
		is(t, "Get", err, api.ErrArg)
		pairs, err := x.Scan(api.Span{}, at, 9)
		is(t, "Scan", len(pairs), 0)
		is(t, "Scan", err, api.ErrArg)
		is(t, "Unpin", x.Unpin(at), api.ErrArg)
		l, err := x.Changes(at)
		is(t, "Changes", len(l), 0)
		is(t, "Changes", err, api.ErrArg)
	}
	n, err = x.Pin()
	is(t, "Pin", n, 0)
	is(t, "Pin", err, api.ErrArg)
	is(t, "Flush", x.Flush(), api.ErrArg)
	is(t, "Compact", x.Compact(), api.ErrArg)
	is(t, "Tables", x.Tables(), [api.MaxLevels]int{})
}

func TestLs3EnginesThatOpenDidNotGive(t *testing.T) {
	asked(t, nil)
	asked(t, &lsm.Engine{})
	d, x, p := filled(t)
	before := files(d)
	copied := *x
	asked(t, &copied)
	if !slices.Equal(files(d), before) {
		t.Error("a copy's calls changed the files")
	}
	has(t, x, p)
	*x = lsm.Engine{}
	asked(t, x)
}

// An engine that its disk refused, or whose disk crashed, or is none any more, ends its calls.
func TestLs3CallsEndBehindARefusal(t *testing.T) {
	c := chance(5)
	all := func(x *lsm.Engine) {
		for range 3 {
			for range 5 {
				x.Write(c.batch(mostWrites, 99))
			}
			x.Flush()
			n, _ := x.Pin()
			x.Write(c.batch(9, 99))
			x.Compact()
			x.Get(key(7), n)
			x.Scan(api.Span{}, n, 99)
			x.Changes(n)
			x.Unpin(n)
			x.Scan(api.Span{}, x.Seq(), 99)
			x.Tables()
		}
	}
	for fuse := range 60 {
		d, x, _ := filled(t)
		ok(t, d.Fuse(fuse))
		all(x)
		ok(t, d.Crash(nil))
		all(x)
		for _, name := range d.Names() {
			ok(t, d.Remove(name))
		}
		all(x)
		*d = fs.Disk{}
		all(x)
	}
}

// What is handed in is neither changed nor kept, nor what lies behind its end; answers are new memory.
func TestLs2ListsAreNotKept(t *testing.T) {
	_, x, p := engine(t)
	room := []api.Write{put("b", "1"), put("a", "2"), put("b", "3"), put("behind", "4")}
	was := slices.Clone(room)
	write(t, x, p, room[:3]...)
	if n, err := x.Write(room[:3]); n != 2 || err != api.OK {
		t.Fatalf("Write answered %d, %d", n, err)
	}
	p.write(was[:3])
	if !slices.Equal(room, was) {
		t.Errorf("the writes are %v now", room)
	}
	room[0], room[1] = put("c", "x"), put("c", "x")
	has(t, x, p)
	at := pin(t, x, p)
	write(t, x, p, put("a", "5"), put("c", "6"))
	for range 2 {
		pairs, err := x.Scan(api.Span{}, p.seq, 2)
		ok(t, err)
		changed, err := x.Changes(at)
		ok(t, err)
		for i := range pairs {
			pairs[i] = api.Pair{}
		}
		for i := range changed {
			changed[i] = api.Entry{}
		}
		_ = append(pairs, api.Pair{Key: "x"})
		_ = append(changed[:0], api.Entry{Key: "x"})
		has(t, x, p)
		gets(t, x, p, "a", "b", "c")
		ok(t, x.Compact())
	}
}

func TestLs2EnginesStandApart(t *testing.T) {
	_, x, p := engine(t)
	_, y, q := engine(t)
	write(t, x, p, put("a", "1"))
	write(t, y, q, put("b", "2"))
	pin(t, x, p)
	write(t, x, p, put("a", "3"))
	ok(t, x.Flush())
	has(t, x, p)
	has(t, y, q)
	is(t, "Unpin", y.Unpin(1), api.ErrNone)
}

func TestLs2Example(t *testing.T) {
	_, x, _ := engine(t)
	n, err := x.Write([]api.Write{put("a", "1")})
	is(t, "Write", n, 1)
	ok(t, err)
	n, err = x.Pin()
	is(t, "Pin", n, 1)
	ok(t, err)
	n, err = x.Write([]api.Write{gone("a")})
	is(t, "Write", n, 2)
	ok(t, err)
	v, there, err := x.Get("a", 1)
	is(t, "Get as of 1", v, "1")
	is(t, "Get as of 1", there, true)
	ok(t, err)
	v, there, err = x.Get("a", 2)
	is(t, "Get as of 2", v, "")
	is(t, "Get as of 2", there, false)
	ok(t, err)
}
