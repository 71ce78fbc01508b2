package shard_test

import (
	"fmt"
	"slices"
	"testing"

	"sorrel/api"
	"sorrel/shard"
)

// ops are operations of each kind, with each field at its limits, and beside them, of which at most one is wrong.
func ops() []api.Op {
	var l []api.Op
	keys := []string{"", "a", "b", "b\x00", "c", "l\xff", "m", "n", "\x00", "\xff", of("c", mostKey), of("c", mostKey+1), of("c", 300)}
	values := []string{"", "1", of("v", mostValue), of("v", mostValue+1), of("v", 5000)}
	for _, kind := range []int{api.OpGet, api.OpPut, api.OpDelete, api.OpSwap} {
		for _, k := range keys {
			l = append(l, api.Op{Kind: kind, Key: k})
		}
		for _, v := range values {
			l = append(l, api.Op{Kind: kind, Key: "c", Value: v}, api.Op{Kind: kind, Key: "c", Old: v}, api.Op{Kind: kind, Key: "c", Old: v, Has: true})
		}
		// What has no meaning there is not looked at.
		l = append(l, api.Op{Kind: kind, Key: "c", Writes: make([]api.Write, 99), Span: api.Span{Lo: "b", Hi: "a"}, Limit: -1})
	}
	for _, k := range keys {
		l = append(l, batch(api.Write{Key: k}), batch(api.Write{Key: "c"}, api.Write{Key: k}), batch(api.Write{Key: k}, api.Write{Key: "d"}), batch(api.Write{Key: k, Gone: true}))
	}
	for _, v := range values {
		l = append(l, batch(api.Write{Key: "c", Value: v}), batch(api.Write{Key: "d"}, api.Write{Key: "c", Value: v}), batch(api.Write{Key: "c", Value: v, Gone: true}))
	}
	for _, n := range []int{0, 1, 2, mostWrites - 1, mostWrites, mostWrites + 1, 64, 65, 300} {
		var writes []api.Write
		for i := range n {
			writes = append(writes, api.Write{Key: fmt.Sprintf("c%04d", i), Value: "1"})
		}
		l = append(l, batch(writes...))
		if n > 2 {
			for _, i := range []int{0, 1, n - 2} {
				twice := slices.Clone(writes)
				twice[n-1] = api.Write{Key: twice[i].Key, Gone: true}
				l = append(l, batch(twice...))
			}
		}
	}
	o := batch(api.Write{Key: "c"})
	o.Key, o.Value, o.Old, o.Span, o.Limit = of("z", 99), of("z", 999), of("z", 999), api.Span{Lo: "b", Hi: "a"}, -1
	l = append(l, o)
	ends := append(keys, "d")
	for _, lo := range ends {
		for _, hi := range ends {
			l = append(l, scan(lo, hi, 3))
		}
	}
	for _, n := range []int{-1 << 62, -1, 0, 1, 2, 3, mostLimit - 1, mostLimit, mostLimit + 1, 4096, 1 << 62} {
		l = append(l, scan("b", "m", n))
	}
	o = scan("b", "", 2)
	o.Key, o.Value, o.Old, o.Writes = of("z", 99), of("z", 999), of("z", 999), make([]api.Write, 99)
	l = append(l, o)
	for _, kind := range []int{-1 << 62, -1, 0, 7, 8, 1 << 32, 1<<32 + 1, 1 << 62} {
		l = append(l, api.Op{Kind: kind, Key: "c", Writes: []api.Write{{Key: "c"}}, Limit: 1})
	}
	return l
}

// between is a shard of a range.
func between(lo, hi string, state int) api.Shard {
	return api.Shard{Id: 7, Epoch: 4, State: state, Span: api.Span{Lo: lo, Hi: hi}}
}

// ranges are those of the shards that are asked.
var ranges = []api.Span{{}, {Lo: "b", Hi: "m"}, {Lo: "b"}, {Hi: "m"}, {Lo: "c", Hi: "c\x00"}, {Lo: of("c", mostKey)}}

// Each operation is asked of each shard, new, and asked again: with the client, its number, the epoch and the state right, and each of them wrong.
func TestSd2Operations(t *testing.T) {
	for _, x := range ranges {
		for _, state := range []int{api.Serving, api.Sealed, api.Importing} {
			_, s, p := made(t, between(x.Lo, x.Hi, state), nil, dids(2))
			seq := 100
			for _, o := range ops() {
				seq += 2
				asks(t, s, p, 3, seq, 4, o)
				asks(t, s, p, 3, seq, 4, o)
				asks(t, s, p, 3, seq-1, 4, o)
				asks(t, s, p, 3, seq+1, 5, o)
				asks(t, s, p, 3, seq+1, 3, o)
				asks(t, s, p, -1, seq+1, 4, o)
				asks(t, s, p, mostClient+1, seq+1, 4, o)
				asks(t, s, p, 3, 0, 4, o)
				asks(t, s, p, 3, mostNumber+1, 4, o)
				asks(t, s, p, 8, seq, 5, o)
			}
			has(t, s, p)
		}
	}
}

// What the chapter's words ask for, spelled out: which answer it is where several errors apply.
func TestSd2Order(t *testing.T) {
	d, s, _ := made(t, between("b", "m", api.Serving), []api.Entry{entry("c", "1")}, []api.Seen{did(2, 50)})
	far := batch(api.Write{Key: "c", Value: "2"}, api.Write{Key: "m"})
	l := []struct {
		client, seq, epoch int
		o                  api.Op
		reply, err         api.Errno
	}{
		{-1, 1, 4, api.Op{}, 0, errArg},
		{8, 1, 3, api.Op{}, 0, errArg},
		{1, 0, 3, put("a", ""), 0, errArg},
		{1, 1, 3, api.Op{}, errArg, 0},
		{1, 1, 3, put("", ""), errArg, 0},
		{2, 50, 3, put("c", ""), 0, errStale},
		{2, 50, 4, put("a", ""), 0, errStale},
		{2, 50, 4, put("m", ""), 0, errStale},
		{2, 49, 4, batch(api.Write{Key: "a"}, api.Write{Key: "c"}), 0, errStale},
		{2, 50, 4, far, 0, 0},
		{2, 49, 4, far, errOld, 0},
		{2, 51, 4, far, errArg, 0},
		{2, 50, 4, put("c", "9"), 0, 0},
		{2, 49, 4, put("c", "9"), errOld, 0},
		{2, 1, 4, del("c"), errOld, 0},
		{2, 49, 4, swap("c", "1", "9"), errOld, 0},
		{2, 50, 4, put(of("c", mostKey+1), "9"), errArg, 0},
		{2, 51, 4, get(""), errArg, 0},
	}
	before := files(d)
	for _, x := range l {
		r, first, err := s.Ask(x.client, x.seq, x.epoch, x.o)
		if !same(r, api.Reply{Err: x.reply}) || first || err != x.err {
			t.Errorf("Ask(%d, %d, %d, %v) answered %v, %t, %d; not %d, %d", x.client, x.seq, x.epoch, x.o, r, first, err, x.reply, x.err)
		}
	}
	if !slices.Equal(files(d), before) {
		t.Error("what was refused changed the files")
	}
	if got := s.Pairs(); !slices.Equal(got, []api.Pair{{Key: "c", Value: "1"}}) {
		t.Errorf("Pairs answered %v", got)
	}
}

// Reads have no number that counts: any one does, and none is noted.
func TestSd2Reads(t *testing.T) {
	d, s, p := made(t, between("b", "m", api.Serving), []api.Entry{entry("c", "1"), entry("d", "")}, dids(8))
	before := files(d)
	for _, seq := range []int{1, 17, mostNumber} {
		for client := range mostClient + 1 {
			asks(t, s, p, client, seq, 4, get("c"))
			asks(t, s, p, client, seq, 4, get("e"))
			asks(t, s, p, client, seq, 4, scan("b", "", 1))
		}
	}
	is(t, "what d has", asks(t, s, p, 0, 1, 4, get("d")).Has, true)
	is(t, "what e has", asks(t, s, p, 0, 1, 4, get("e")).Has, false)
	has(t, s, p)
	if !slices.Equal(files(d), before) {
		t.Error("reads changed the files")
	}
}

// All short ranges, with all limits, of all short ranges' shards.
func TestSd2Scan(t *testing.T) {
	texts := []string{"", "a", "a\x00", "aa", "ab", "b", "ba", "bb", "c"}
	for _, lo := range texts {
		for _, hi := range texts {
			if !mayBeSpan(api.Span{Lo: lo, Hi: hi}) {
				continue
			}
			x := between(lo, hi, api.Serving)
			p := blank(x)
			var l []api.Entry
			for i, k := range texts[1:] {
				if p.within(k) && i%3 != 2 {
					l = append(l, entry(k, fmt.Sprint(i)))
				}
			}
			_, s, p := made(t, x, l, nil)
			for _, from := range texts {
				for _, to := range texts {
					for limit := range 10 {
						asks(t, s, p, 1, 1, 4, scan(from, to, limit))
					}
				}
			}
		}
	}
}

func TestSd2ScanLimits(t *testing.T) {
	_, s, p := made(t, serving, entries(0, 300, of("v", mostValue)), nil)
	for _, n := range []int{1, 255, 256} {
		r := asks(t, s, p, 1, 1, 4, scan("", "", n))
		is(t, "Upto", r.Upto, key(n-1)+"\x00")
		is(t, "how many pairs there are", len(r.Pairs), n)
	}
	is(t, "Upto", asks(t, s, p, 1, 1, 4, scan(key(44), "", 256)).Upto, key(299)+"\x00") // though there are no more
	is(t, "Upto", asks(t, s, p, 1, 1, 4, scan(key(45), "", 256)).Upto, "")
	is(t, "Upto", asks(t, s, p, 1, 1, 4, scan(key(45), "z", 256)).Upto, "z")
	long := of("z", mostKey)
	asks(t, s, p, 1, 1, 4, put(long, "1"))
	is(t, "Upto", asks(t, s, p, 1, 1, 4, scan(long, "", 1)).Upto, long+"\x00")
	is(t, "Upto", asks(t, s, p, 1, 1, 4, scan("\x00", of("\xff", mostKey), 256)).Upto, key(255)+"\x00")
}

// Each value that a key may have, or none, is swapped for each, or none, by each.
func TestSd2Swap(t *testing.T) {
	values := []string{"", "1", "2", of("v", mostValue)}
	seq := 0
	_, s, p := made(t, serving, nil, nil)
	for _, there := range append(values, "none") {
		for _, has := range []bool{false, true} {
			for _, old := range values {
				for _, v := range values {
					seq += 2
					o := put("k", there)
					if there == "none" {
						o = del("k")
					}
					asks(t, s, p, 5, seq, 4, o)
					o = api.Op{Kind: api.OpSwap, Key: "k", Has: has, Old: old, Value: v}
					r := asks(t, s, p, 5, seq+1, 4, o)
					done := has && there == old || !has && there == "none"
					is(t, "whether it was done", r.Err == api.OK, done)
					is(t, "whether it had a value", r.Has, there != "none")
					asks(t, s, p, 5, seq+1, 4, o)
					asks(t, s, p, 4, 1, 4, get("k"))
				}
			}
		}
	}
	asks(t, s, p, 5, seq+2, 4, swapNone("n", "1"))
	asks(t, s, p, 5, seq+3, 4, swapNone("n", "2"))
	asks(t, s, p, 5, seq+4, 4, swap("n", "1", "3"))
	has(t, s, p)
}

// What was asked is done once, and answered the same each time, whatever is asked by that number.
func TestSd2Once(t *testing.T) {
	_, s, p := made(t, serving, entries(0, 3, "1"), nil)
	l := []api.Op{put("a", "1"), put("a", "2"), del("a"), del("a"), swap("a", "2", "3"), swapNone("a", "4"), swapNone("a", "5"), batch(api.Write{Key: "a", Value: "6"}, api.Write{Key: "b", Gone: true})}
	seq := 0
	for client := range mostClient + 1 {
		for _, o := range l {
			seq += 3
			r := asks(t, s, p, client, seq, 4, o)
			for _, other := range l {
				again, first, err := s.Ask(client, seq, 4, other)
				if !same(again, r) || first || err != api.OK {
					t.Errorf("asked again it answered %v, %t, %d; not %v", again, first, err, r)
				}
				asks(t, s, p, client, seq-1, 4, other)
			}
			has(t, s, p)
		}
	}
	is(t, "how many clients did something", len(s.Seen()), 8)
	asks(t, s, p, 3, mostNumber, 4, put("z", "1"))
	asks(t, s, p, 3, mostNumber, 4, del("z"))
	asks(t, s, p, 3, mostNumber-1, 4, del("z"))
	has(t, s, p)
}

// fulls are operations that are asked of a shard with just so much room.
func fulls() []api.Op {
	some := func(n int, gone bool) api.Op {
		var l []api.Write
		for i := range n {
			l = append(l, api.Write{Key: fmt.Sprint("new", i)}, api.Write{Key: key(i), Gone: gone})
		}
		return batch(l...)
	}
	return []api.Op{
		put("new", "1"), put(key(3), "2"), del("new"), del(key(3)), swapNone("new", "1"), swapNone(key(3), "1"), swap(key(3), "1", "2"), swap("new", "1", "2"), swap(key(3), "7", "2"),
		some(1, false), some(1, true), some(3, false), some(3, true), some(16, false), some(16, true),
	}
}

// With no room, and with little, by clients that did something, and by such as did nothing; with, and without, a Copy ahead.
func TestSd2Room(t *testing.T) {
	t.Parallel()
	for _, free := range []int{0, 1, 2, 17} {
		t.Run(fmt.Sprint(free), func(t *testing.T) {
			t.Parallel()
			for _, o := range fulls() {
				for _, client := range []int{1, 6} {
					for _, copied := range []bool{false, true} {
						d, s, p := made(t, serving, entries(0, mostContent-2-free, "1"), dids(2))
						if copied {
							copies(t, s, p)
						}
						asks(t, s, p, client, 100, 4, o)
						asks(t, s, p, client, 100, 4, o) // is done now, if it was not
						has(t, s, p)
						ok(t, d.Crash(nil))
						s, p = open(t, d), p.opened()
						asks(t, s, p, client, 100, 4, o)
						has(t, s, p)
					}
				}
			}
		})
	}
}

// What there was no room for is done by the same number, when there is.
func TestSd2RoomComes(t *testing.T) {
	_, s, p := made(t, serving, entries(0, mostContent-1, "1"), dids(1))
	at := copies(t, s, p)
	is(t, "Err", asks(t, s, p, 0, 100, 4, put("new", "1")).Err, errFull)
	is(t, "Err", asks(t, s, p, 1, 100, 4, put(key(0), "1")).Err, errFull)
	is(t, "Err", asks(t, s, p, 1, 100, 4, swap(key(0), "7", "1")).Err, errFull)
	if l, whole, err := s.Since(at); len(l) > 0 || whole || err != api.OK {
		t.Errorf("Since answered %d entries, %t, %d behind what was not done", len(l), whole, err)
	}
	is(t, "Err", asks(t, s, p, 0, 99, 4, del(key(7))).Err, api.OK)
	is(t, "Err", asks(t, s, p, 0, 100, 4, put("new", "1")).Err, api.OK)
	is(t, "Err", asks(t, s, p, 1, 100, 4, del(key(8))).Err, api.OK)
	has(t, s, p)
}

// With the power off what changes nothing is answered, and what would is not.
func TestSd2Off(t *testing.T) {
	d, s, p := made(t, serving, entries(0, mostContent-2, "1"), dids(2))
	offBy(t, d)
	asks(t, s, p, 0, 1, 4, get(key(3)))
	asks(t, s, p, 0, 1, 4, scan("", "", 3))
	asks(t, s, p, 0, 10, 4, put("a", "1"))
	asks(t, s, p, 0, 9, 4, put("a", "1"))
	asks(t, s, p, 0, 11, 4, put("new", "1")) // there is no room
	asks(t, s, p, 0, 11, 5, put("a", "1"))
	asks(t, s, p, 0, 11, 4, put("", "1"))
	asks(t, s, p, 0, 0, 4, put("a", "1"))
	ok(t, d.Crash(nil))
	for _, o := range []api.Op{put(key(3), "2"), del(key(3)), swap(key(3), "1", "2"), swap(key(3), "2", "2"), swapNone(key(3), "2"), batch(api.Write{Key: key(3), Gone: true})} {
		for fuse := range 2 {
			c := twin(t, d)
			s := open(t, c)
			ok(t, c.Fuse(fuse))
			for range 2 {
				r, first, err := s.Ask(0, 100, 4, o)
				if !same(r, api.Reply{}) || first || err != errOff {
					t.Errorf("Ask answered %v, %t, %d", r, first, err)
				}
				is(t, "whether it is off", c.Off(), true)
			}
			ok(t, c.Crash(nil))
			has(t, open(t, c), p)
		}
	}
}

// The document's examples.
func TestSd2Examples(t *testing.T) {
	_, s, _ := made(t, serving, nil, nil)
	for i, first := range []bool{true, false} {
		r, now, err := s.Ask(2, 5, 4, put("a", "1"))
		if !same(r, api.Reply{}) || now != first || err != api.OK {
			t.Errorf("asked %d times before it answered %v, %t, %d", i, r, now, err)
		}
	}
}

// anyKey is a key by chance.
func anyKey(n func(int) int, keys int) string {
	return key(n(keys))
}

// anyOp is an operation by chance, of so many keys.
func anyOp(n func(int) int, keys int) api.Op {
	value := func() string { return of(string(rune('a'+n(3))), n(4)) }
	switch n(9) {
	case 0:
		return get(anyKey(n, keys))
	case 1:
		return del(anyKey(n, keys))
	case 2:
		return swap(anyKey(n, keys), value(), value())
	case 3:
		return swapNone(anyKey(n, keys), value())
	case 4:
		return scan(anyKey(n, keys), anyKey(n, keys), n(20))
	case 5, 6:
		var l []api.Write
		for range n(mostWrites + 2) {
			w := api.Write{Key: anyKey(n, keys), Value: value()}
			if n(3) == 0 {
				w.Value, w.Gone = "", true
			}
			if !slices.ContainsFunc(l, func(x api.Write) bool { return x.Key == w.Key }) {
				l = append(l, w)
			}
		}
		return batch(l...)
	}
	return put(anyKey(n, keys), value())
}

// Runs of what clients ask, of few keys, and of more than there is room for.
func TestSd2Runs(t *testing.T) {
	t.Parallel()
	for i, keys := range []int{1, 4, 40, 300, 520, 700} {
		t.Run(fmt.Sprint(keys), func(t *testing.T) {
			t.Parallel()
			n := noise(i)
			x := serving
			x.Span = api.Span{Lo: key(keys / 9), Hi: key(keys - keys/9)}
			p := blank(x)
			var l []api.Entry
			for i := range keys {
				if p.within(key(i)) && len(l) < mostContent-n(9) {
					l = append(l, entry(key(i), "1"))
				}
			}
			_, s, p := made(t, x, l, nil)
			seq := 0
			for range 3000 {
				seq += n(3) - n(2)
				asks(t, s, p, n(mostClient+1), max(seq, 1), 4-n(90)/89, anyOp(n, keys))
				switch n(60) {
				case 0:
					copies(t, s, p)
				case 1:
					sets(t, s, p, api.Serving)
				case 2:
					ok(t, s.Flush())
				case 3, 4, 5:
					has(t, s, p)
				}
			}
			has(t, s, p)
		})
	}
}

// Two shards do not know of one another.
func TestR4Apart(t *testing.T) {
	_, a, p := made(t, serving, entries(0, 5, "1"), nil)
	_, b, q := made(t, serving, entries(0, 5, "1"), nil)
	var l []*shard.Server
	n := noise(3)
	for i := range 200 {
		asks(t, a, p, n(8), 10+i, 4, anyOp(n, 20))
		asks(t, b, q, n(8), 10+i, 4, anyOp(n, 20))
		l = append(l, a, b)
	}
	has(t, a, p)
	has(t, b, q)
	is(t, "how many shards there are", len(l), 400)
}
