package shard_test

import (
	"fmt"
	"math"
	"slices"
	"testing"

	"sorrel/api"
	"sorrel/fs"
	"sorrel/lsm"
	"sorrel/shard"
)

func TestR1NoServer(t *testing.T) {
	_, s, p := made(t, importing, entries(0, 3, "1"), dids(2))
	at := copies(t, s, p)
	copied := *s
	for _, x := range []*shard.Server{nil, {}, &copied} {
		is(t, "Info", x.Info(), api.Shard{})
		is(t, "Set", x.Set(api.Serving), errArg)
		r, first, err := x.Ask(0, 1, importing.Epoch, get("a"))
		if !same(r, api.Reply{}) || first || err != errArg {
			t.Errorf("Ask answered %v, %t, %d", r, first, err)
		}
		if l := x.Pairs(); l != nil {
			t.Errorf("Pairs answered %v", l)
		}
		if l := x.Seen(); l != nil {
			t.Errorf("Seen answered %v", l)
		}
		if k, has := x.Median(); k != "" || has {
			t.Errorf("Median answered %q, %t", k, has)
		}
		if l, n, err := x.Copy(); l != nil || n != 0 || err != errArg {
			t.Errorf("Copy answered %v, %d, %d", l, n, err)
		}
		if l, whole, err := x.Since(at); l != nil || whole || err != errArg {
			t.Errorf("Since answered %v, %t, %d", l, whole, err)
		}
		is(t, "Take", x.Take(true, nil, nil), errArg)
		is(t, "Flush", x.Flush(), errArg)
	}
	has(t, s, p)
}

func TestR1NoDisk(t *testing.T) {
	d := fs.New()
	copied := *d
	for _, x := range []*fs.Disk{nil, {}, &copied} {
		if s, err := shard.Make(x, serving, nil, nil); s != nil || err != errArg {
			t.Errorf("Make answered %v, %d", s, err)
		}
		if s, err := shard.Open(x); s != nil || err != errArg {
			t.Errorf("Open answered %v, %d", s, err)
		}
	}
	is(t, "how many files there are", len(d.Names()), 0)
}

// All calls end, and none panics, also behind a call that the disk refused, and on a disk that crashed, or whose files are others meanwhile.
func TestR1Broken(t *testing.T) {
	calls := func(s *shard.Server) {
		for seq := range 3 {
			s.Ask(1, 100+seq, importing.Epoch, put("a", "1"))
			s.Ask(1, 100+seq, importing.Epoch, scan("", "", 9))
		}
		s.Copy()
		s.Since(3)
		s.Take(true, entries(0, 200, "2"), dids(8))
		s.Take(false, entries(0, 9, "3"), nil)
		s.Set(api.Serving)
		s.Ask(1, 200, importing.Epoch, del("a"))
		s.Flush()
		s.Median()
		s.Set(api.Importing)
	}
	for i, breaks := range []func(d *fs.Disk){
		func(d *fs.Disk) { d.Fuse(0) },
		func(d *fs.Disk) { d.Fuse(1) },
		func(d *fs.Disk) { d.Fuse(5) },
		func(d *fs.Disk) { d.Fuse(40) },
		func(d *fs.Disk) { d.Crash(nil) },
		func(d *fs.Disk) {
			for _, name := range d.Names() {
				d.Remove(name)
			}
		},
		func(d *fs.Disk) {
			for i := range 300 {
				d.Make(fmt.Sprint("x", i))
			}
		},
		func(d *fs.Disk) {
			for i := range 80 {
				d.Make(fmt.Sprint("tab-", i))
			}
			d.Make("take")
			d.Make("edits.new")
		},
	} {
		d, s, _ := made(t, importing, entries(0, 100, "1"), dids(2))
		breaks(d)
		calls(s)
		d.Crash([]int{i})
		calls(s)
		if s, err := shard.Open(d); err == api.OK {
			calls(s)
		}
	}
}

func TestR1AnyNumbers(t *testing.T) {
	_, s, p := made(t, serving, entries(0, 3, "1"), nil)
	numbers := []int{math.MinInt, -1, 0, 1, 3, 4, 5, 6, 7, 8, 9, 256, 257, mostNumber, mostNumber + 1, 1 << 62, math.MaxInt}
	for _, n := range numbers {
		for _, m := range numbers {
			for _, o := range []api.Op{get("k0001"), scan("", "", 2)} {
				asks(t, s, p, n, m, 4, o)
				asks(t, s, p, 1, n, m, o)
				o.Kind, o.Limit = n, m
				asks(t, s, p, 1, mostNumber, 4, o)
			}
		}
		if n < api.Importing || n > api.Sealed {
			is(t, "Set", s.Set(n), errArg)
		}
	}
	has(t, s, p)
}

// shards are such as may be, and such as may not, with each field at its limits, and beside them.
func shards() (right, wrong []api.Shard) {
	least := api.Shard{Id: 1, Epoch: 1, State: api.Importing}
	put := func(l *[]api.Shard, change func(x *api.Shard)) {
		x := least
		change(&x)
		*l = append(*l, x)
	}
	for _, n := range []int{1, 2, 300, mostNumber} {
		put(&right, func(x *api.Shard) { x.Id = n })
		put(&right, func(x *api.Shard) { x.Epoch = n })
	}
	for _, n := range []int{0, -1, math.MinInt, mostNumber + 1, math.MaxInt} {
		put(&wrong, func(x *api.Shard) { x.Id = n })
		put(&wrong, func(x *api.Shard) { x.Epoch = n })
	}
	for n := range mostNode + 1 {
		put(&right, func(x *api.Shard) { x.Node = n })
	}
	for _, n := range []int{-1, math.MinInt, mostNode + 1, 100, math.MaxInt} {
		put(&wrong, func(x *api.Shard) { x.Node = n })
	}
	for n := 1; n <= 3; n++ {
		put(&right, func(x *api.Shard) { x.State = n })
	}
	for _, n := range []int{0, -1, math.MinInt, 4, 1 << 32, math.MaxInt} {
		put(&wrong, func(x *api.Shard) { x.State = n })
	}
	ends := []string{"", "\x00", "a", "a\x00", "b", "\xff", of("a", mostKey), of("b", mostKey), of("\xff", mostKey), of("a", mostKey+1), of("\xff", mostKey+1), of("b", 300)}
	for _, lo := range ends {
		for _, hi := range ends {
			l := &wrong
			if mayBeSpan(api.Span{Lo: lo, Hi: hi}) {
				l = &right
			}
			put(l, func(x *api.Shard) { x.Span = api.Span{Lo: lo, Hi: hi} })
		}
	}
	put(&right, func(x *api.Shard) {
		*x = api.Shard{Id: mostNumber, Epoch: mostNumber, Node: mostNode, State: api.Sealed, Span: api.Span{Lo: of("a", mostKey), Hi: of("b", mostKey)}}
	})
	return right, wrong
}

func TestSd1MakeOfShards(t *testing.T) {
	right, wrong := shards()
	if len(right) < 30 || len(wrong) < 30 {
		t.Fatalf("there are %d, and %d", len(right), len(wrong))
	}
	for _, x := range right {
		d, s, p := made(t, x, nil, nil)
		has(t, s, p)
		has(t, open(t, twin(t, d)), p)
		ok(t, d.Crash(nil))
		has(t, open(t, d), p)
	}
	for _, x := range append(wrong, api.Shard{}) {
		notMade(t, fmt.Sprint(x), fs.New(), x, nil, nil, errArg)
	}
}

// notMade tells a Make that was not refused so, or that changed the files.
func notMade(t *testing.T, what string, d *fs.Disk, x api.Shard, l []api.Entry, seen []api.Seen, want api.Errno) {
	t.Helper()
	before := files(d)
	if s, err := shard.Make(d, x, l, seen); s != nil || err != want {
		t.Errorf("%s: Make answered %v, %d; not %d", what, s, err, want)
	}
	if !slices.Equal(files(d), before) {
		t.Errorf("%s: Make changed the files", what)
	}
}

// lists are lists of entries for the range from b up to m: such as may be, and such as may not.
func lists() (right, wrong [][]api.Entry) {
	return [][]api.Entry{
		nil, {}, {entry("b", "")}, {gone("b")}, {entry("b", "1"), entry("b\x00", "2"), gone("c"), entry("d", "4")},
		{entry("b"+of("z", mostKey-1), of("v", mostValue))}, {{Key: "c", Value: "1", Gone: true, Seq: -9}}, {{Key: "c", Value: "1", Seq: math.MaxInt}},
		{gone("c"), gone("d")}, {entry("l\xff", "1")},
		{{Key: "d", Value: of("v", mostValue), Gone: true}},
	}, [][]api.Entry{
		{entry("", "1")}, {gone("")}, {entry("a", "1")}, {gone("a\xff")}, {entry("m", "1")}, {gone("m")}, {entry("n", "1")}, {entry("\xff", "1")},
		{entry("c"+of("z", mostKey), "1")}, {gone("c" + of("z", mostKey))}, {entry("c", of("v", mostValue+1))},
		{{Key: "c", Value: of("v", mostValue+1), Gone: true}},
		{entry("d", "1"), entry("c", "2")}, {entry("c", "1"), entry("c", "1")}, {gone("c"), entry("c", "1")}, {entry("c", "1"), entry("e", "2"), entry("d", "3")},
		{entry("c", "1"), entry("d", "2"), entry("m", "3")}, {entry("", "0"), entry("c", "1")},
		{entry("c", "1"), gone("b")},
	}
}

// seens are lists of what clients did last: such as may be, and such as may not.
func seens() (right, wrong [][]api.Seen) {
	told := func(r api.Reply) []api.Seen { return []api.Seen{{Client: 2, Seq: 5, Reply: r}} }
	return [][]api.Seen{
		nil, {}, {did(0, 1)}, {did(7, mostNumber)}, dids(8), told(api.Reply{Err: 999}), told(api.Reply{Has: true, Err: errUnlike}), told(api.Reply{Pairs: []api.Pair{}}),
	}, [][]api.Seen{
		{did(-1, 1)}, {did(8, 1)}, {did(1, 0)}, {did(1, -1)}, {did(1, mostNumber+1)}, {did(1, 1), did(1, 2)}, {did(2, 1), did(1, 1)}, append(dids(8), did(8, 1)),
		told(api.Reply{Value: "1"}), told(api.Reply{Upto: "1"}), told(api.Reply{Pairs: []api.Pair{{}}}), told(api.Reply{Err: 1000}), told(api.Reply{Err: -1}),
	}
}

func TestSd1MakeOfContent(t *testing.T) {
	x := serving
	x.Span = api.Span{Lo: "b", Hi: "m"}
	right, wrong := lists()
	rightSeen, wrongSeen := seens()
	for _, l := range right {
		for _, seen := range rightSeen {
			d, s, p := made(t, x, l, seen)
			for i := range p.seen {
				y := p.seen[i]
				y.Reply.Pairs = nil
				p.seen[i] = y
			}
			has(t, s, p)
			ok(t, d.Crash(nil))
			has(t, open(t, d), p)
		}
		for _, seen := range wrongSeen {
			notMade(t, fmt.Sprint(l, seen), fs.New(), x, l, seen, errArg)
		}
	}
	for _, l := range wrong {
		for _, seen := range rightSeen {
			notMade(t, fmt.Sprint(l, seen), fs.New(), x, l, seen, errArg)
		}
	}
}

// What is not refused ahead of it is a disk that has a file, whichever it is.
func TestSd1MakeHasFiles(t *testing.T) {
	for _, name := range []string{"x", "edits", "log-00000000", "tab-1", "take"} {
		d := fs.New()
		ok(t, d.Make(name))
		notMade(t, name, d, serving, nil, nil, errArg)
		offBy(t, d)
		notMade(t, name+", off", d, serving, nil, nil, errArg)
	}
	d, _, p := made(t, serving, entries(0, 3, "1"), nil)
	notMade(t, "a shard's", d, serving, nil, nil, errArg)
	has(t, open(t, d), p)
}

func TestSd1MakeOff(t *testing.T) {
	d := fs.New()
	offBy(t, d)
	notMade(t, "off", d, serving, nil, nil, errOff)
	notMade(t, "off, and no room", d, serving, entries(0, mostContent+1, ""), nil, errOff)
	notMade(t, "off, and no shard", d, api.Shard{}, nil, nil, errArg)
	notMade(t, "off, and no key", d, serving, []api.Entry{{}}, nil, errArg)
	notMade(t, "off, and no client", d, serving, nil, []api.Seen{{}}, errArg)
	ok(t, d.Crash(nil), d.Fuse(0))
	notMade(t, "going off, and no room", d, serving, entries(0, mostContent+1, ""), nil, errFull) // nothing was done yet
	is(t, "whether it is off", d.Off(), false)
	notMade(t, "going off", d, serving, nil, nil, errOff)
	is(t, "whether it is off", d.Off(), true)
}

func TestSd1MakeRoom(t *testing.T) {
	t.Parallel()
	for clients := range mostClient + 2 {
		most := mostContent - clients
		for _, n := range []int{most - 1, most} {
			l := entries(0, n, of("v", mostValue))
			d, s, p := made(t, serving, append(l, gone("z1"), gone("z2")), dids(clients))
			has(t, s, p)
			ok(t, d.Crash(nil))
			has(t, open(t, d), p)
		}
		notMade(t, fmt.Sprint(clients, " clients"), fs.New(), serving, entries(0, most+1, ""), dids(clients), errFull)
		notMade(t, fmt.Sprint(clients, " clients"), fs.New(), serving, entries(0, 3000, ""), dids(clients), errFull)
	}
	var l []api.Entry
	for i := range 5000 {
		l = append(l, gone(key(i)))
	}
	l[7], l[4999] = entry(key(7), "1"), entry(key(4999), "2")
	_, s, p := made(t, serving, l, nil)
	has(t, s, p)
	is(t, "how many pairs there are", len(s.Pairs()), 2)
}

// engineOf is what the engine of a shard's disk has.
func engineOf(t *testing.T, d *fs.Disk) []api.Pair {
	t.Helper()
	x, err := lsm.Open(twin(t, d))
	ok(t, err)
	l, err := x.Scan(api.Span{}, x.Seq(), 4096)
	ok(t, err)
	return l
}

// The keys of the engine are as the chapter says.
func TestSd1OnItsDisk(t *testing.T) {
	check := func(what string, d *fs.Disk, p *plain) {
		t.Helper()
		want := p.engine()
		for _, x := range engineOf(t, d) {
			if !want[x.Key] || x.Key[0] == 'u' && p.pairs[x.Key[1:]] != x.Value {
				t.Errorf("%s: the engine has %q with %q", what, x.Key, x.Value)
			}
			delete(want, x.Key)
		}
		if len(want) > 0 {
			t.Errorf("%s: the engine has not %v", what, want)
		}
	}
	d, s, p := made(t, importing, entries(0, 200, "1"), dids(3))
	check("Make", d, p)
	takes(t, s, p, true, entries(100, 300, "2"), dids(5))
	check("Take", d, p)
	sets(t, s, p, api.Serving)
	asks(t, s, p, 7, 1, importing.Epoch, put(of("z", mostKey), "3"))
	asks(t, s, p, 7, 2, importing.Epoch, batch(api.Write{Key: key(100), Gone: true}, api.Write{Key: "a"}))
	check("Ask", d, p)
	for _, x := range engineOf(t, d) {
		if x.Key == "t7" {
			is(t, "what client 7 did last", x.Value, "\x02\x00\x00")
		}
	}
}

func TestSd1OpenNone(t *testing.T) {
	d := fs.New()
	notOpened(t, "no files", d, errNone)
	offBy(t, d)
	notOpened(t, "off", d, errOff)
	ok(t, d.Crash(nil), d.Fuse(0))
	notOpened(t, "no files, and going off", d, errNone)
	is(t, "whether it is off", d.Off(), false)
	ok(t, d.Fuse(-1))
	s, err := shard.Make(d, serving, nil, nil) // there still are no files
	ok(t, err)
	has(t, s, blank(serving))
}

// laid is a disk with an engine of pairs.
func laid(t *testing.T, l []api.Pair) *fs.Disk {
	t.Helper()
	d := fs.New()
	x, err := lsm.Open(d)
	ok(t, err)
	for part := range slices.Chunk(l, 60) {
		var b []api.Write
		for _, p := range part {
			b = append(b, api.Write{Key: p.Key, Value: p.Value})
		}
		_, err := x.Write(b)
		ok(t, err)
	}
	return d
}

// Engines that a shard left, or a Make that was not done, and such as none left.
func TestSd1OpenEngines(t *testing.T) {
	x := serving
	x.Span = api.Span{Lo: "b", Hi: "m"}
	d, _, p := made(t, x, []api.Entry{entry("b", "1"), entry("l", "2")}, dids(2))
	l := engineOf(t, d)
	has(t, open(t, laid(t, l)), p)
	i := slices.IndexFunc(l, func(x api.Pair) bool { return x.Key == "m" })
	without := slices.Delete(slices.Clone(l), i, i+1)
	for n := range len(without) + 1 {
		notOpened(t, fmt.Sprint("without it ", n), laid(t, without[:n]), errNone)
	}
	notOpened(t, "without it, and with a key of another range", laid(t, append(without, api.Pair{Key: "uz", Value: "1"})), errNone)
	for _, x := range []api.Pair{
		{Key: "u"}, {Key: "ua"}, {Key: "um"}, {Key: "uz"}, {Key: "u\x00"}, {Key: "u\xff"},
	} {
		notOpened(t, "with "+x.Key, laid(t, append(l, x)), errArg)
	}
	for _, x := range []api.Pair{
		{Key: "u"}, {Key: "a"}, {Key: "\x00"}, {Key: "z"}, {Key: "v"}, {Key: "v1"}, {Key: "\xff"}, {Key: "m0"}, {Key: "m\x00"}, {Key: "s"}, {Key: "s9"}, {Key: "l\xff"}, {Key: "n"},
		{Key: "t", Value: "\x05\x00\x01"}, {Key: "t8", Value: "\x05\x00\x01"}, {Key: "t/", Value: "\x05\x00\x01"}, {Key: "t44", Value: "\x05\x00\x01"},
		{Key: "t4"}, {Key: "t4", Value: "\x05\x00\x02"}, {Key: "t4", Value: "\x00\x00\x01"}, {Key: "t4", Value: "\x05\x00\x01\x00"}, {Key: "t4", Value: "\x05\x00"},
	} {
		notOpened(t, "with "+x.Key, laid(t, append(l, x)), errArg)
		notOpened(t, "without it, and with "+x.Key, laid(t, append(without, x)), errArg)
	}
	p.seen[4] = api.Seen{Client: 4, Seq: 5, Reply: api.Reply{Has: true}}
	has(t, open(t, laid(t, append(l, api.Pair{Key: "t4", Value: "\x05\x00\x01"}))), p)
}

// The shard itself is read off whole: cut off, with more behind it, or with another byte, it is none, or another one that may be.
func TestSd1OpenShardItself(t *testing.T) {
	x := api.Shard{Id: 300, Epoch: mostNumber, Node: 5, State: api.Sealed, Span: api.Span{Lo: "b", Hi: "m"}}
	d, _, _ := made(t, x, []api.Entry{entry("b", "1"), entry("l", "2")}, dids(2))
	l := engineOf(t, d)
	i := slices.IndexFunc(l, func(x api.Pair) bool { return x.Key == "m" })
	text := l[i].Value
	with := func(s string) *fs.Disk {
		l := slices.Clone(l)
		l[i].Value = s
		return laid(t, l)
	}
	for n := range len(text) {
		notOpened(t, fmt.Sprint("its first bytes ", n), with(text[:n]), errArg)
	}
	for b := range 256 {
		notOpened(t, fmt.Sprint("with a byte behind it ", b), with(text+string([]byte{byte(b)})), errArg)
	}
	others := 0
	for n := range len(text) {
		for b := range 256 {
			c := []byte(text)
			c[n] = byte(b)
			d := with(string(c))
			before := files(d)
			s, err := shard.Open(d)
			if err != api.OK {
				if s != nil || err != errArg || !slices.Equal(files(d), before) {
					t.Errorf("Open with the byte %d as %d answered %v, %d, or changed the files", n, b, s, err)
				}
				continue
			}
			others++
			y := s.Info()
			if y == x != (b == int(text[n])) || y.Id < 1 || y.Epoch > mostNumber || y.Node > mostNode || y.Span.Lo > "b" || y.Span.Hi <= "l" {
				t.Errorf("Open with the byte %d as %d has %v", n, b, y)
			}
		}
	}
	if others < len(text) {
		t.Errorf("%d others were opened", others)
	}
}

// Files that no shard leaves.
func TestSd1OpenOtherFiles(t *testing.T) {
	for _, name := range []string{"x", "0", "-", ".", "a", "m", "edits2", "log", "log-1", "tab-0", "tab-9", "shard", "take2", "take.new", of("z", 32)} {
		for _, s := range []string{"", "x", "\x00", of("y", 5000)} {
			d := fs.New()
			ok(t, d.Make(name), d.Append(name, s))
			notOpened(t, name+" alone", d, errArg)
			d, _, p := made(t, serving, entries(0, 90, "1"), dids(3))
			ok(t, d.Make(name), d.Append(name, s))
			notOpened(t, name, d, errArg)
			ok(t, d.Remove(name))
			has(t, open(t, d), p)
		}
	}
	d, s, _ := made(t, serving, entries(0, 90, "1"), dids(3))
	ok(t, s.Flush())
	for _, name := range d.Names() {
		for _, text := range []string{"x", "\x80", of("y", 300)} {
			c := twin(t, d)
			ok(t, c.Remove(name), c.Make(name), c.Append(name, text))
			s, err := shard.Open(c)
			if (err != errArg && err != errNone) != (s != nil) {
				t.Errorf("%s as %q: Open answered %v, %d", name, text, s, err)
			}
		}
	}
}

func TestSd1OpenOff(t *testing.T) {
	d, s, p := made(t, serving, entries(0, 90, "1"), dids(3))
	ok(t, s.Flush())
	asks(t, s, p, 1, 100, 4, put("a", "1"))
	offBy(t, d)
	notOpened(t, "off", d, errOff)
	ok(t, d.Crash(nil))
	has(t, open(t, d), p)
	fuse := 0
	for ; ; fuse++ {
		c := twin(t, d)
		ok(t, c.Fuse(fuse))
		s, err := shard.Open(c)
		if err == api.OK {
			has(t, s, p)
			break
		}
		if s != nil || err != errOff {
			t.Fatalf("Open with a fuse of %d answered %v, %d", fuse, s, err)
		}
		ok(t, c.Crash([]int{fuse, 0}))
		has(t, open(t, c), p)
	}
	if fuse < 2 {
		t.Errorf("Open had %d doings alone", fuse)
	}
}

func TestSd1Set(t *testing.T) {
	for from := 1; from <= 3; from++ {
		for to := 1; to <= 3; to++ {
			x := serving
			x.State = from
			d, s, p := made(t, x, entries(0, 9, "1"), dids(2))
			sets(t, s, p, to)
			has(t, s, p)
			ok(t, d.Crash(nil))
			has(t, open(t, d), p)
			for _, n := range []int{0, -1, 4, math.MinInt, math.MaxInt, 1<<32 + 1} {
				is(t, "Set", s.Set(n), errArg)
			}
		}
	}
}

func TestSd1SetOff(t *testing.T) {
	d, s, p := made(t, serving, entries(0, 9, "1"), dids(2))
	for _, state := range []int{api.Sealed, api.Serving} {
		offBy(t, d)
		is(t, "Set", s.Set(state), errOff)
		is(t, "Set of none", s.Set(0), errArg)
		ok(t, d.Crash(nil))
		s = open(t, d)
		has(t, s, p)
	}
	ok(t, d.Fuse(0))
	is(t, "Set", s.Set(api.Serving), errOff)
	is(t, "whether it is off", d.Off(), true)
}

// A shard that has no room for anything else has room for its state.
func TestSd1SetFull(t *testing.T) {
	d, s, p := made(t, serving, entries(0, mostContent, "1"), nil)
	copies(t, s, p)
	for i := range 10 {
		sets(t, s, p, 1+i%3)
		has(t, s, p)
	}
	ok(t, d.Crash(nil))
	has(t, open(t, d), p.opened())
}

func TestSd1Flush(t *testing.T) {
	d, s, p := made(t, serving, entries(0, 9, "1"), dids(2))
	copies(t, s, p)
	for seq := range 20 {
		asks(t, s, p, 1, 100+seq, 4, put(key(seq), "2"))
		ok(t, s.Flush())
		has(t, s, p)
		has(t, open(t, twin(t, d)), p.opened())
	}
	asks(t, s, p, 1, 200, 4, put("a", "2"))
	offBy(t, d)
	is(t, "Flush", s.Flush(), errOff)
	ok(t, d.Crash(nil))
	has(t, open(t, d), p.opened())
}

// Flush lays down what is in memory: no batch is in the log alone behind it.
func TestSd1FlushLaysDown(t *testing.T) {
	d, s, p := made(t, serving, nil, nil)
	asks(t, s, p, 1, 1, 4, put("a", "1"))
	ok(t, s.Flush())
	tables := func() int {
		x, err := lsm.Open(twin(t, d))
		ok(t, err)
		n := 0
		for _, k := range x.Tables() {
			n += k
		}
		return n
	}
	c := twin(t, d)
	for _, name := range c.Names() {
		if name[:3] == "log" {
			ok(t, c.Remove(name))
		}
	}
	has(t, open(t, c), p)
	if tables() == 0 {
		t.Error("there is no table behind Flush")
	}
}

// What is handed in is not changed, nor read beyond its end, nor kept; what is answered is new memory.
func TestR3Lists(t *testing.T) {
	room := append(entries(0, 100, "1"), entry("z", "2"), entry("y", "3"))
	l := slices.Clone(room)[:100]
	seen := append(dids(3), did(1, 1))[:3]
	keep, keepSeen := slices.Clone(l[:102]), slices.Clone(seen[:4])
	_, s, p := made(t, importing, l, seen)
	unchanged := func(what string) {
		t.Helper()
		if !slices.Equal(l[:102], keep) || !alike(seen[:4], keepSeen) {
			t.Errorf("%s changed what was handed in", what)
		}
	}
	unchanged("Make")
	takes(t, s, p, true, l, seen)
	unchanged("Take")
	takes(t, s, p, false, l[:50], seen)
	unchanged("Take")
	for i := range l {
		l[i] = entry("x", "x")
	}
	seen[0] = did(0, 99)
	has(t, s, p)
	sets(t, s, p, api.Serving)
	writes := []api.Write{{Key: "b", Value: "1"}, {Key: "a", Gone: true}, {Key: "c", Value: "1"}}
	asks(t, s, p, 1, 100, importing.Epoch, batch(writes[:2]...))
	if !slices.Equal(writes, []api.Write{{Key: "b", Value: "1"}, {Key: "a", Gone: true}, {Key: "c", Value: "1"}}) {
		t.Errorf("Ask changed the batch: %v", writes)
	}
	writes[0].Key = "x"
	has(t, s, p)
	wipe := func() {
		clear(s.Pairs())
		clear(s.Seen())
		r, _, err := s.Ask(1, 101, importing.Epoch, scan("", "", 9))
		ok(t, err)
		clear(r.Pairs)
		c, at, err := s.Copy()
		ok(t, err)
		clear(c)
		p.copied(at)
		c, _, err = s.Since(at + 1)
		ok(t, err)
		clear(c)
		asks(t, s, p, 2, 200, importing.Epoch, put("b", "9"))
		c, _, err = s.Since(at)
		ok(t, err)
		clear(c)
	}
	wipe()
	has(t, s, p)
}
