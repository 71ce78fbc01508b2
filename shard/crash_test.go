package shard_test

import (
	"fmt"
	"math"
	"slices"
	"testing"

	"sorrel/api"
	"sorrel/fs"
	"sorrel/shard"
	"sorrel/varint"
)

// step is something that is done to a shard, and to a plain one.
type step struct {
	do   func(s *shard.Server) api.Errno
	note func(p *plain)
}

// asked is an Ask, of a shard that serves.
func asked(client, seq int, o api.Op) step {
	return step{
		func(s *shard.Server) api.Errno {
			_, _, err := s.Ask(client, seq, importing.Epoch, o)
			return err
		},
		func(p *plain) { p.ask(client, seq, importing.Epoch, o) },
	}
}

// taken is a Take.
func taken(whole bool, l []api.Entry, seen []api.Seen) step {
	return step{
		func(s *shard.Server) api.Errno { return s.Take(whole, l, seen) },
		func(p *plain) { p.take(whole, l, seen) },
	}
}

// put into a state.
func stated(state int) step {
	return step{
		func(s *shard.Server) api.Errno { return s.Set(state) },
		func(p *plain) { p.set(state) },
	}
}

// flushed is a Flush, copied a Copy.
var (
	flushed = step{(*shard.Server).Flush, func(p *plain) {}}
	copied  = step{
		func(s *shard.Server) api.Errno {
			_, _, err := s.Copy()
			return err
		},
		func(p *plain) {},
	}
)

// script are steps that come upon all that a shard does to its disk.
func script() []step {
	n := noise(5)
	l := []step{
		taken(true, entries(0, 20, "2"), dids(3)), // in one batch
		copied, taken(true, entries(10, 150, of("v", mostValue)), dids(8)), // in several
		taken(false, append(gones(5, 70), entries(200, 100, "3")...), []api.Seen{did(1, 11)}), // not whole
		flushed, taken(true, entries(900, 150, "4"), nil),
		stated(api.Serving),
		asked(1, 100, put("a", "1")), asked(1, 101, swap("a", "2", "3")), asked(1, 102, swap("a", "1", "3")), asked(2, 100, del("a")),
		copied, asked(2, 101, batch(api.Write{Key: key(901), Gone: true}, api.Write{Key: "b", Value: "1"})), flushed,
	}
	for i := range 8 {
		l = append(l, asked(i, 200+i, anyOp(n, 1000)))
	}
	return append(l, stated(api.Sealed), stated(api.Importing), taken(true, nil, nil), taken(false, entries(0, 180, "5"), nil), taken(true, nil, nil))
}

// begun are the entries with which the script's shard is made.
func begun() []api.Entry {
	return entries(0, 100, "1")
}

// ran is a disk on which a script ran with a fuse, with what the shard was at last, and what it would have been behind the step that was refused (nil: there is none); off: that there was one.
func ran(t *testing.T, fuse int) (d *fs.Disk, was, next *plain, off bool) {
	t.Helper()
	d = fs.New()
	ok(t, d.Fuse(fuse))
	first := blank(importing)
	first.take(true, begun(), dids(2))
	s, err := shard.Make(d, importing, begun(), dids(2))
	if err == errOff {
		return d, nil, first, true
	}
	ok(t, err)
	was = first
	for _, x := range script() {
		next = was.clone()
		x.note(next)
		if err := x.do(s); err != api.OK {
			if err != errOff {
				t.Fatalf("a call with a fuse of %d answered %d", fuse, err)
			}
			return d, was, next, true
		}
		was = next
	}
	return d, was, nil, false
}

// either is which of two plain shards the one of a disk is behind a crash; ends the test, if it is none. was is nil: there need not be one.
func either(t *testing.T, what string, d *fs.Disk, was, next *plain) (*shard.Server, *plain) {
	t.Helper()
	before := files(d)
	s, err := shard.Open(d)
	if was == nil && err == errNone {
		if s != nil || !slices.Equal(files(d), before) {
			t.Fatalf("%s: Open answered %v, %d, or changed the files", what, s, err)
		}
		return nil, nil
	}
	if err != api.OK {
		t.Fatalf("%s: Open answered %d; the files are %q", what, err, d.Names())
	}
	if slices.Contains(d.Names(), "take") {
		t.Fatalf("%s: the files are %q", what, d.Names())
	}
	all := ""
	for _, p := range []*plain{was, next} {
		if p == nil {
			continue
		}
		x := differs(s, p.opened())
		if x == "" {
			return s, p.opened()
		}
		all += x + "\n"
	}
	t.Fatalf("%s: it is neither as it was, nor as it would be: %s", what, all)
	return nil, nil
}

// goesOn asks a shard something, opens it anew behind a crash, and asks again.
func goesOn(t *testing.T, d *fs.Disk, s *shard.Server, p *plain) {
	t.Helper()
	for _, x := range p.did() {
		if p.info.State == api.Serving {
			asks(t, s, p, x.Client, x.Seq, p.info.Epoch, del(key(3)))
		}
	}
	if p.info.State == api.Importing {
		takes(t, s, p, false, []api.Entry{entry(key(7), "behind")}, nil)
	}
	sets(t, s, p, api.Serving)
	asks(t, s, p, 0, 1000, p.info.Epoch, put("behind", "1"))
	has(t, s, p)
	ok(t, d.Crash(nil))
	s, p = open(t, d), p.opened()
	has(t, s, p)
	asks(t, s, p, 0, 1000, p.info.Epoch, put("behind", "2"))
	has(t, s, p)
}

// TestSd4AnyDoing lets the power go off at each doing of a script, with more or less surviving: what was answered is there, and what was not is there whole, or not at all.
func TestSd4AnyDoing(t *testing.T) {
	t.Parallel()
	keeps := [][]int{nil, {math.MaxInt}, {7, 0, 23}, {900, math.MaxInt, 0}}
	for more := range 2 {
		t.Run(fmt.Sprint(more), func(t *testing.T) {
			t.Parallel()
			for fuse := 0; ; fuse++ {
				d, was, next, off := ran(t, fuse)
				if !off {
					break
				}
				ok(t, d.Crash(keeps[(fuse+more)%len(keeps)]))
				what := fmt.Sprint("a fuse of ", fuse)
				if fuse%16 == 8*more {
					each(t, what, d, was, next)
				}
				if s, p := either(t, what, d, was, next); s != nil && fuse%3 == more {
					goesOn(t, d, s, p)
				}
			}
		})
	}
}

// each lets the power go off at each doing of the Open behind a crash.
func each(t *testing.T, what string, d *fs.Disk, was, next *plain) {
	t.Helper()
	for fuse := 0; ; fuse++ {
		c := twin(t, d)
		ok(t, c.Fuse(fuse))
		s, err := shard.Open(c)
		if err != errOff {
			return
		}
		if s != nil {
			t.Fatalf("%s, and then %d: Open answered %v, %d", what, fuse, s, err)
		}
		ok(t, c.Crash([]int{fuse, math.MaxInt, 0}[fuse%3:]))
		if s, p := either(t, fmt.Sprint(what, ", and then ", fuse), c, was, next); s != nil && fuse%5 == 0 {
			goesOn(t, c, s, p)
		}
	}
}

// What was answered is sure: nothing that is not sure need survive.
func TestSd4AnsweredIsSure(t *testing.T) {
	d, s, p := made(t, importing, begun(), dids(2))
	for _, x := range script() {
		ok(t, x.do(s))
		x.note(p)
		c := twin(t, d)
		for _, name := range d.Names() {
			text, _ := d.Read(name)
			n, err := d.Sure(name)
			ok(t, err, c.Remove(name), c.Make(name), c.Append(name, text[:n]))
		}
		has(t, open(t, c), p.opened())
	}
}

// A Make that was not answered was not done, or whole.
func TestSd4Make(t *testing.T) {
	done := map[bool]int{}
	for fuse := 0; ; fuse++ {
		d := fs.New()
		ok(t, d.Fuse(fuse))
		p := blank(importing)
		p.take(true, entries(0, 400, "1"), dids(2))
		s, err := shard.Make(d, importing, entries(0, 400, "1"), dids(2))
		if err == api.OK {
			break
		}
		if s != nil || err != errOff {
			t.Fatalf("Make with a fuse of %d answered %v, %d", fuse, s, err)
		}
		for _, keep := range [][]int{{0}, {math.MaxInt}, {9}} {
			c := fs.New()
			ok(t, c.Fuse(fuse))
			shard.Make(c, importing, entries(0, 400, "1"), dids(2))
			ok(t, c.Crash(keep))
			s, p := either(t, fmt.Sprint("a fuse of ", fuse), c, nil, p)
			done[s != nil]++
			if s != nil {
				goesOn(t, c, s, p)
			} else if len(c.Names()) > 0 {
				notMade(t, "behind it", c, importing, nil, nil, errArg)
			}
		}
	}
	if done[true] == 0 || done[false] == 0 {
		t.Errorf("it was done, and not done, so often: %v", done)
	}
}

// A Take of more than a batch that was not answered was not done, or whole, however many of its bytes survive.
func TestSd4Take(t *testing.T) {
	t.Parallel()
	l, seen := append(gones(0, 40), entries(60, 100, "2")...), dids(4)
	for i, keep := range []int{0, 1, 3000, math.MaxInt} {
		t.Run(fmt.Sprint(keep), func(t *testing.T) {
			t.Parallel()
			for _, whole := range []bool{false, true} {
				done := map[bool]int{}
				for fuse := 0; ; fuse++ {
					d, s, p := made(t, importing, entries(0, 130, "1"), dids(2))
					next := p.clone()
					is(t, "Take", next.take(whole, l, seen), api.OK)
					ok(t, d.Fuse(fuse))
					err := s.Take(whole, l, seen)
					if err == api.OK {
						break
					}
					is(t, "Take", err, errOff)
					ok(t, d.Crash([]int{keep}))
					what := fmt.Sprint("a fuse of ", fuse)
					if fuse%5 == i {
						each(t, what, d, p, next)
					}
					s, q := either(t, what, d, p, next)
					done[len(q.pairs) == len(next.pairs)]++
					takes(t, s, q, whole, l, seen) // asked again it is done
					has(t, s, next)
					if fuse%3 == i%3 {
						goesOn(t, d, s, q)
					}
				}
				if done[true] == 0 || done[false] == 0 {
					t.Errorf("it was done, and not done, so often: %v", done)
				}
			}
		})
	}
}

// A Take of just as much as a batch may have, or little more or less, is done whole, or not at all.
func TestSd4TakeOfABatch(t *testing.T) {
	for n := 55; n < 70; n++ {
		for _, clients := range []int{0, 8} {
			l := entries(0, n, "2")
			fuse := 0
			for ; ; fuse++ {
				d, s, p := made(t, importing, entries(n-9, 10, "1"), dids(clients))
				next := p.clone()
				is(t, "Take", next.take(true, l, nil), api.OK)
				ok(t, d.Fuse(fuse))
				err := s.Take(true, l, nil)
				if err == api.OK {
					break
				}
				is(t, "Take", err, errOff)
				ok(t, d.Crash([]int{fuse % 2 * 9000}))
				either(t, fmt.Sprintf("%d entries, a fuse of %d", n, fuse), d, p, next)
			}
			if fuse < 2 {
				t.Errorf("Take of %d entries had %d doings alone", n, fuse)
			}
		}
	}
}

// The file of a Take is refused where it is no such one, goes where it is not whole, and is enough where it is.
func TestSd4TakeFile(t *testing.T) {
	d, s, p := made(t, importing, entries(0, 130, "1"), dids(2))
	l := entries(50, 200, "2")
	ok(t, d.Fuse(3)) // it is sure, and no part is done
	is(t, "Take", s.Take(true, l, nil), errOff)
	ok(t, d.Crash(nil))
	next := p.clone()
	next.take(true, l, nil)
	text, err := d.Read("take")
	ok(t, err)
	with := func(s string) *fs.Disk {
		c := twin(t, d)
		ok(t, c.Remove("take"), c.Make("take"), c.Append("take", s))
		return c
	}
	has(t, open(t, with(text)), next)
	for n := 0; n < len(text); n += 1 + n/50 {
		has(t, open(t, with(text[:n])), p)
	}
	for _, wrong := range []string{
		text + "x", text + text, "\x00", "\x00\x00", "\x01\x01", "\x01\x00", "\x02\x00\x00", "\x02\x01m", "\x03\x01m\x00", "\x04\x01m\x01x",
		of("\x80", 9), "\x80\x00", "\xff\xff\xff\xff\xff\xff\xff\xff\x7f", text[:3] + "\x00" + text[4:],
	} {
		notOpened(t, fmt.Sprintf("a file with %.20q", wrong), with(wrong), errArg)
	}
	alone, _, _ := made(t, importing, nil, nil)
	itself := engineOf(t, alone)[0].Value
	var many []string
	for i := range mostContent + 1 {
		many = append(many, "u"+key(i), "1")
	}
	last := []string{"m", itself}
	has(t, open(t, with(framed(t, append([]string{"ua", "1"}, last...)...))), shardWith(api.Write{Key: "a", Value: "1"}))
	for what, l := range map[string][]string{
		"nothing":           {},
		"no shard":          {"ua", "1"},
		"it is not last":    append(last, "ua", "1"),
		"no value":          append([]string{"ua"}, last...),
		"a key too long":    append([]string{"u" + of("k", 64), "1"}, last...),
		"a value too long":  append([]string{"ua", of("v", mostValue+1)}, last...),
		"too many":          append(many, last...),
		"another key":       append([]string{"v", "1"}, last...),
		"no client":         append([]string{"t8", "\x05\x00\x01"}, last...),
		"another shard":     {"m", itself[1:]},
		"nothing of it":     {"m", ""},
		"no key":            append([]string{"", ""}, last...),
		"a key of no bytes": append([]string{"u", ""}, last...),
	} {
		notOpened(t, what, with(framed(t, l...)), errArg)
	}
	c := with(text)
	for _, name := range c.Names() {
		if name != "take" {
			ok(t, c.Remove(name))
		}
	}
	has(t, open(t, c), next)
	offBy(t, d)
	notOpened(t, "off", d, errOff)
}

// framed is the text of a Take's file with texts.
func framed(t *testing.T, l ...string) string {
	t.Helper()
	var all string
	for _, x := range l {
		s, err := varint.Text(x)
		ok(t, err)
		all += s
	}
	s, err := varint.Text(all)
	ok(t, err)
	return s
}

// shardWith is the plain shard of importing with a pair alone.
func shardWith(w api.Write) *plain {
	p := blank(importing)
	p.let(w)
	return p
}

// Runs by chance, with the power going off at any doing, and crashes between.
func TestSd4Runs(t *testing.T) {
	t.Parallel()
	for i, keys := range []int{3, 60, 300, 700} {
		t.Run(fmt.Sprint(keys), func(t *testing.T) {
			t.Parallel()
			n := noise(i)
			d, s, p := made(t, importing, nil, nil)
			seq, crashes := 0, 0
			for range 700 {
				seq += n(2)
				var x step
				switch k := n(30); {
				case k == 0:
					x = stated(1 + n(3))
				case k == 1 || p.info.State == api.Sealed:
					x = stated(api.Serving)
				case k == 2:
					x = flushed
				case p.info.State == api.Importing:
					l, seen := anyEntries(n, keys, 1+n(keys))
					x = taken(n(3) == 0, l, seen)
				default:
					x = asked(n(8), 1+seq, anyOp(n, keys))
				}
				if n(12) == 0 {
					ok(t, d.Fuse(n(25)))
				}
				next := p.clone()
				x.note(next)
				if err := x.do(s); err != errOff {
					p = next
					continue
				}
				crashes++
				ok(t, d.Crash([]int{n(40), n(9000), 0, math.MaxInt}[:n(5)]))
				s, p = either(t, "a run", d, p, next)
				if m := len(d.Names()); m > 13 {
					t.Fatalf("there are %d files: %q", m, d.Names())
				}
				x.do(s)
				x.note(p)
				has(t, s, p)
			}
			if crashes < 10 {
				t.Errorf("there were %d crashes alone", crashes)
			}
			has(t, s, p)
		})
	}
}
