package lsm_test

import (
	"fmt"
	"math"
	"testing"

	"sorrel/api"
	"sorrel/fs"
	"sorrel/lsm"
)

// step does something to an engine, and to a plain one, if it is not refused: what it answered.
type step func(x *lsm.Engine, p *plain) api.Errno

// writes is a step that does a batch.
func writes(l ...api.Write) step {
	return func(x *lsm.Engine, p *plain) api.Errno {
		_, err := x.Write(l)
		if err == api.OK {
			p.write(l)
		}
		return err
	}
}

// pins is a step that pins.
func pins(x *lsm.Engine, p *plain) api.Errno {
	_, err := x.Pin()
	p.pins = append(p.pins, p.seq)
	return err
}

// unpins is a step that takes the first pin away.
func unpins(x *lsm.Engine, p *plain) api.Errno {
	at := p.pins[0]
	p.pins = p.pins[1:]
	return x.Unpin(at)
}

// settles is a step that lays down what is in memory.
func settles(call func(x *lsm.Engine) api.Errno) step {
	return func(x *lsm.Engine, p *plain) api.Errno { return call(x) }
}

// script are steps that come upon all that an engine does to its disk.
func script() []step {
	flush, compact := settles((*lsm.Engine).Flush), settles((*lsm.Engine).Compact)
	c := chance(9)
	var l []step
	batches := func(n, size int) {
		for range n {
			l = append(l, writes(c.batch(size, 90)...))
		}
	}
	l = append(l, writes(put("a", "1")), writes(put("b", of("v", mostValue)), gone("a")), flush, pins)
	l = append(l, writes(put("b", "2"), put("c", "3")), flush, compact, writes(gone("b")), compact)
	batches(3, mostWrites)
	l = append(l, pins)
	batches(4, mostWrites) // these are too many for the log
	l = append(l, flush, writes(gone("c")), unpins, flush, writes(put("c", "4")), flush)
	batches(2, 9)
	l = append(l, flush, compact, unpins)
	batches(6, mostWrites)
	for range 3 {
		batches(1, 3)
		l = append(l, flush)
	}
	return append(l, writes(put("z", "5")), compact, writes(gone("z")))
}

// ran is a disk on which a script ran with a fuse, and the number of the last batch that was answered; whether the power went off.
func ran(t *testing.T, fuse int) (*fs.Disk, int, bool) {
	t.Helper()
	d, p := fs.New(), fresh()
	ok(t, d.Fuse(fuse))
	x, err := lsm.Open(d)
	if err == api.OK {
		for _, s := range script() {
			if err = s(x, p); err != api.OK {
				break
			}
		}
	}
	if err != api.OK && err != api.ErrOff {
		t.Fatalf("a call with a fuse of %d answered %d", fuse, err)
	}
	return d, p.seq, err == api.ErrOff
}

// trail is what a plain engine has behind each batch of a script, by its number.
func trail(t *testing.T) []*plain {
	t.Helper()
	p := fresh()
	l := []*plain{p.clone()}
	x := open(t, fs.New())
	for _, s := range script() {
		ok(t, s(x, p))
		if p.seq == len(l) {
			l = append(l, p.clone())
		}
	}
	return l
}

// one tells which of some plain engines an engine is behind a crash; nothing is pinned then.
func one(t *testing.T, x *lsm.Engine, l []*plain) *plain {
	t.Helper()
	for _, p := range l {
		if p.seq == x.Seq() {
			p = p.clone()
			p.pins = nil
			has(t, x, p)
			gets(t, x, p, p.keys()...)
			return p
		}
	}
	t.Fatalf("Seq is %d behind a crash, and was %d", x.Seq(), l[0].seq)
	return nil
}

// TestLs4AnyDoing lets the power go off at each doing of a script, and at each doing of the Open behind it, with more or less surviving.
func TestLs4AnyDoing(t *testing.T) {
	keeps := [][]int{nil, {math.MaxInt}, {7, 0, 23}, {40, math.MaxInt, 0}}
	all := trail(t)
	_, last, _ := ran(t, -1)
	is(t, "how many batches there are", last, len(all)-1)
	off := true
	for fuse := 0; off; fuse++ {
		for i, keep := range keeps {
			var d *fs.Disk
			d, last, off = ran(t, fuse)
			ok(t, d.Crash(keep))
			anew(t, d, all[last:min(last+2, len(all))], keeps[(i+fuse)%len(keeps)], i < 2)
		}
	}
}

// anew opens the engine of a disk behind a crash; if so asked, also with the power going off at each doing of that.
func anew(t *testing.T, d *fs.Disk, l []*plain, keep []int, each bool) {
	t.Helper()
	for fuse := 0; each; fuse++ {
		c := twin(t, d)
		ok(t, c.Fuse(fuse))
		x, err := lsm.Open(c)
		if err == api.OK {
			one(t, x, l)
			break
		}
		is(t, "Open", err, api.ErrOff)
		ok(t, c.Crash(keep))
		x = open(t, c)
		p := one(t, x, l)
		write(t, x, p, put("behind", "1"))
	}
	x := open(t, d)
	p := one(t, x, l)
	write(t, x, p, put("behind", "1"), gone(key(3)))
	ok(t, x.Flush())
	write(t, x, p, put("behind", "2"))
	ok(t, d.Crash(nil))
	one(t, open(t, d), []*plain{p})
}

// A batch that was answered is sure: nothing that is not sure need survive.
func TestLs4AnsweredIsSure(t *testing.T) {
	d, x, p := engine(t)
	c := chance(2)
	for i := range 300 {
		write(t, x, p, c.batch(1+c.below(20), 70)...)
		switch i % 30 {
		case 11:
			ok(t, x.Flush())
		case 23:
			ok(t, x.Compact())
		}
		has(t, open(t, crashed(t, d, nil)), p)
	}
}

// A batch that was not answered is there whole, or not at all, however many of its bytes survive.
func TestLs4NotAnswered(t *testing.T) {
	seen := map[int]bool{}
	for keep := range 1200 {
		d, x, p := engine(t)
		write(t, x, p, put("a", "1"))
		l := append(puts(0, mostWrites-1, "value"), gone("a"))
		next := p.clone()
		next.write(l)
		ok(t, d.Fuse(1))
		if n, err := x.Write(l); n != 0 || err != api.ErrOff {
			t.Fatalf("Write answered %d, %d", n, err)
		}
		ok(t, d.Crash([]int{keep}))
		x = open(t, d)
		p = one(t, x, []*plain{p, next})
		seen[p.seq] = true
		write(t, x, p, put("a", "2"))
		has(t, open(t, d), p)
	}
	if len(seen) != 2 {
		t.Errorf("Seq was one of %v alone", seen)
	}
}

// Seq goes on, also where nothing is left of the last batches.
func TestLs4SeqGoesOn(t *testing.T) {
	d, x, p := engine(t)
	for i := range 5 {
		write(t, x, p, put("a", "1"))
		write(t, x, p, gone("a"))
		ok(t, x.Compact())
		is(t, "Tables", x.Tables(), [api.MaxLevels]int{})
		if i%2 == 0 {
			ok(t, d.Crash(nil))
		}
		x = open(t, d)
		has(t, x, p)
	}
	is(t, "Seq", x.Seq(), 10)
}

// run is what calls by chance do to an engine, held against a plain one.
type run struct {
	c    chance
	d    *fs.Disk
	x    *lsm.Engine
	p    *plain
	keys int
	size int
}

// write does a batch by chance: whether the power is on.
func (r *run) write(t *testing.T) bool {
	t.Helper()
	l := r.c.batch(1+r.c.below(r.size), r.keys)
	n, err := r.x.Write(l)
	switch {
	case err == api.ErrOff:
		next := r.p.clone()
		next.write(l)
		r.revive(t, r.p, next)
		return false
	case !r.p.room(l):
		is(t, "Write of too much", err, api.ErrFull)
		is(t, "Write of too much", n, 0)
	default:
		ok(t, err)
		r.p.write(l)
		is(t, "Write", n, r.p.seq)
	}
	return true
}

// revive opens the engine anew behind a crash.
func (r *run) revive(t *testing.T, l ...*plain) {
	t.Helper()
	keep := []int{r.c.below(90), r.c.below(900) - 9, math.MaxInt, 0}[:r.c.below(5)]
	ok(t, r.d.Crash(keep))
	r.x = open(t, r.d)
	r.p = one(t, r.x, l)
}

// pin pins, or takes a pin away.
func (r *run) pin(t *testing.T) {
	t.Helper()
	if n := len(r.p.pins); n == mostPins || n > 0 && r.c.below(2) == 0 {
		if n == mostPins {
			_, err := r.x.Pin()
			is(t, "Pin of too many", err, api.ErrFull)
		}
		unpin(t, r.x, r.p, r.p.pins[r.c.below(n)])
		return
	}
	pin(t, r.x, r.p)
}

// step does one thing by chance.
func (r *run) step(t *testing.T) {
	t.Helper()
	settled := api.OK
	switch k := r.c.below(100); {
	case k < 80:
		if !r.write(t) {
			return
		}
	case k < 90:
		r.pin(t)
	case k < 95:
		settled = r.x.Flush()
	case k < 97:
		settled = r.x.Compact()
	case k < 98:
		r.revive(t, r.p)
	default:
		ok(t, r.d.Fuse(r.c.below(60)-9))
	}
	if settled != api.OK {
		is(t, "Flush, or Compact", settled, api.ErrOff)
		r.revive(t, r.p)
	}
}

// Runs of calls, with the power going off at any doing, and crashes between, beside a plain engine: with few keys and small batches, and with as many as there is room for.
func TestLs4Runs(t *testing.T) {
	for i, c := range []struct{ keys, size, steps int }{
		{5, 2, 1500}, {30, 4, 1500}, {100, 20, 1500}, {250, 64, 1000}, {500, 9, 1500}, {560, 64, 1200}, {700, 30, 1200}, {900, 64, 1200}, {600, 3, 2500},
	} {
		t.Run(fmt.Sprint(c), func(t *testing.T) {
			t.Parallel()
			r := &run{c: chance(i), d: fs.New(), p: fresh(), keys: c.keys, size: c.size}
			r.x = open(t, r.d)
			for i := range c.steps {
				r.step(t)
				if i%4 == 0 {
					has(t, r.x, r.p)
				}
				gets(t, r.x, r.p, key(r.c.below(c.keys)), key(r.c.below(c.keys)))
				if n := len(r.d.Names()); n > 12 {
					t.Fatalf("there are %d files: %q", n, r.d.Names())
				}
			}
		})
	}
}
