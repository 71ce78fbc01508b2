package shard_test

import (
	"fmt"
	"math"
	"slices"
	"testing"

	"sorrel/api"
	"sorrel/fs"
	"sorrel/lsm"
	"sorrel/shard"
)

func TestSd3Median(t *testing.T) {
	for n := range 20 {
		_, s, p := made(t, serving, entries(0, n, "1"), dids(n%9))
		has(t, s, p)
		k, found := s.Median()
		is(t, "whether there is a median", found, n >= 2)
		if n >= 2 {
			is(t, "Median", k, key(n/2))
		}
	}
	_, s, _ := made(t, serving, []api.Entry{entry("a", "1"), entry("b", "2"), entry("c", "3")}, nil)
	k, _ := s.Median()
	is(t, "Median", k, "b")
}

// seqOf is the number of the last batch of a shard's engine.
func seqOf(t *testing.T, d *fs.Disk) int {
	t.Helper()
	x, err := lsm.Open(twin(t, d))
	ok(t, err)
	return x.Seq()
}

func TestSd3Copy(t *testing.T) {
	d, s, p := made(t, serving, nil, nil)
	for i := range 20 {
		is(t, "the number", copies(t, s, p), seqOf(t, d))
		is(t, "the number", copies(t, s, p), seqOf(t, d)) // as often as is asked
		has(t, s, p)
		asks(t, s, p, i%8, 100+i, 4, put(key(i%7), fmt.Sprint(i)))
		has(t, s, p)
	}
	for state := 1; state <= 3; state++ {
		sets(t, s, p, state)
		copies(t, s, p)
		has(t, s, p)
	}
	offBy(t, d)
	copies(t, s, p) // nothing is asked of the disk
	has(t, s, p)
}

// told are the keys that Since tells, each with its value, or "gone".
func told(t *testing.T, s *shard.Server, at int) []string {
	t.Helper()
	l, whole, err := s.Since(at)
	if whole || err != api.OK {
		t.Fatalf("Since answered %d entries, %t, %d", len(l), whole, err)
	}
	var keys []string
	for _, e := range l {
		if e.Seq != 1 {
			t.Errorf("Since answered %v", e)
		}
		if e.Gone {
			e.Value += "gone"
		}
		keys = append(keys, e.Key+" "+e.Value)
	}
	return keys
}

func TestSd3SinceOfAsk(t *testing.T) {
	l := []api.Entry{entry("a", "1"), entry("b", "2"), entry("c", "3")}
	for _, x := range []struct {
		what string
		o    api.Op
		want []string
	}{
		{"a new key", put("d", "4"), []string{"d 4"}},
		{"another value", put("a", "4"), []string{"a 4"}},
		{"the value that it had", put("a", "1"), []string{"a 1"}},
		{"a key gone", del("b"), []string{"b gone"}},
		{"a key gone that was not there", del("x"), []string{"x gone"}},
		{"a swap", swap("a", "1", "5"), []string{"a 5"}},
		{"a swap for the value that it had", swap("a", "1", "1"), []string{"a 1"}},
		{"a swap of none", swapNone("x", "5"), []string{"x 5"}},
		{"a swap of another value", swap("a", "2", "5"), nil},
		{"a swap of a key that is there", swapNone("a", "5"), nil},
		{"a swap of one that is not", swap("x", "5", "6"), nil},
		{"a batch", batch(api.Write{Key: "z", Value: "1"}, api.Write{Key: "b", Value: "2"}, api.Write{Key: "a", Gone: true}, api.Write{Key: "y", Gone: true}), []string{"a gone", "b 2", "y gone", "z 1"}},
		{"a key", get("a"), nil},
		{"a scan", scan("", "", 9), nil},
		{"what was done", api.Op{Kind: api.OpPut, Key: "a", Value: "was done"}, nil},
		{"what may not be", put("", ""), nil},
	} {
		_, s, p := made(t, serving, l, []api.Seen{did(1, 5)})
		at := copies(t, s, p)
		seq := 6
		if x.o.Value == "was done" {
			seq = 5
		}
		asks(t, s, p, 1, seq, 4, x.o)
		for range 2 {
			if got := told(t, s, at); !slices.Equal(got, x.want) {
				t.Errorf("Since of %s tells %q, not %q", x.what, got, x.want)
			}
			ok(t, s.Flush())
		}
		asks(t, s, p, 1, seq, 5, x.o)
		sets(t, s, p, api.Sealed)
		has(t, s, p)
	}
}

// What is told is what is so now, however often it was changed meanwhile; what was changed ahead of Copy is not told.
func TestSd3SinceNow(t *testing.T) {
	_, s, p := made(t, serving, entries(0, 9, "1"), nil)
	asks(t, s, p, 1, 1, 4, put(key(0), "2"))
	asks(t, s, p, 1, 2, 4, del(key(1)))
	at := copies(t, s, p)
	asks(t, s, p, 1, 3, 4, del(key(2)))
	asks(t, s, p, 1, 4, 4, put(key(2), "3"))
	asks(t, s, p, 1, 5, 4, put(key(3), "3"))
	asks(t, s, p, 1, 6, 4, del(key(3)))
	asks(t, s, p, 1, 7, 4, put("new", "3"))
	asks(t, s, p, 1, 8, 4, del("new"))
	want := []string{key(2) + " 3", key(3) + " gone", "new gone"}
	if got := told(t, s, at); !slices.Equal(got, want) {
		t.Errorf("Since tells %q, not %q", got, want)
	}
	has(t, s, p)
}

// Since tells changes behind the last Copy alone, of a shard that was not opened anew.
func TestSd3SinceOfOthers(t *testing.T) {
	d, s, p := made(t, serving, entries(0, 9, "1"), nil)
	has(t, s, p) // no Copy was done yet
	first := copies(t, s, p)
	asks(t, s, p, 1, 1, 4, put(key(0), "2"))
	second := copies(t, s, p)
	asks(t, s, p, 1, 2, 4, put(key(1), "2"))
	has(t, s, p)
	for _, at := range []int{first, second - 1, second + 1, 0, -1, math.MinInt, math.MaxInt} {
		l, whole, err := s.Since(at)
		if !slices.Equal(l, p.all()) || !whole || err != api.OK {
			t.Errorf("Since(%d) answered %v, %t, %d", at, l, whole, err)
		}
	}
	if got := told(t, s, second); !slices.Equal(got, []string{key(1) + " 2"}) {
		t.Errorf("Since tells %q", got)
	}
	s, p = open(t, d), p.opened()
	for _, at := range []int{first, second, seqOf(t, d), 0} {
		l, whole, err := s.Since(at)
		if !slices.Equal(l, p.all()) || !whole || err != api.OK {
			t.Errorf("opened anew Since(%d) answered %v, %t, %d", at, l, whole, err)
		}
	}
	copies(t, s, p)
	asks(t, s, p, 1, 3, 4, del(key(3)))
	has(t, s, p)
}

// There is room for what was and what is of some keys, and too little for many more: these are done, and Since tells all, till there is another Copy.
func TestSd3TooLittleRoom(t *testing.T) {
	for _, x := range []struct{ keys, changed int }{{200, 200}, {500, 5}, {340, 150}, {300, 280}, {400, 200}, {510, 100}, {256, 256}} {
		_, s, p := made(t, serving, entries(0, x.keys, "1"), nil)
		at := copies(t, s, p)
		for i := range x.changed {
			o := put(key(i), "2")
			if i%3 == 0 {
				o = del(key(i))
			}
			asks(t, s, p, 1, 1+i, 4, o)
			if i%40 == 0 {
				has(t, s, p)
			}
		}
		has(t, s, p)
		l, whole, err := s.Since(at)
		ok(t, err)
		is(t, fmt.Sprint("whether all is told of ", x), whole, x.keys+x.changed > mostKept-2)
		if n := len(s.Pairs()); whole && len(l) != n || !whole && len(l) != x.changed {
			t.Errorf("Since answered %d entries of %v", len(l), x)
		}
		copies(t, s, p)
		asks(t, s, p, 1, 1000, 4, put(key(1), "3"))
		has(t, s, p)
	}
}

// That Since tells all once stays so, also where there is room again.
func TestSd3TooLittleRoomOnce(t *testing.T) {
	_, s, p := made(t, serving, entries(0, 400, "1"), nil)
	at := copies(t, s, p)
	seq := 0
	for i := range 400 {
		seq++
		asks(t, s, p, 1, seq, 4, del(key(i)))
	}
	l, whole, err := s.Since(at)
	if len(l) > 0 || !whole || err != api.OK {
		t.Errorf("Since answered %d entries, %t, %d", len(l), whole, err)
	}
	asks(t, s, p, 1, seq+1, 4, put("a", "1"))
	has(t, s, p)
}

func TestSd3TakeOfWrong(t *testing.T) {
	x := importing
	x.Span = api.Span{Lo: "b", Hi: "m"}
	_, wrong := lists()
	right, wrongSeen := seens()
	d, s, p := made(t, x, []api.Entry{entry("c", "1")}, dids(2))
	copies(t, s, p)
	before := files(d)
	refused := func(what string, whole bool, l []api.Entry, seen []api.Seen) {
		t.Helper()
		if err := s.Take(whole, l, seen); err != errArg {
			t.Errorf("%s: Take(%t, %v, %v) answered %d", what, whole, l, seen, err)
		}
	}
	each := func(what string) {
		t.Helper()
		for _, whole := range []bool{false, true} {
			for _, l := range wrong {
				refused(what, whole, l, right[4])
			}
			for _, seen := range wrongSeen {
				refused(what, whole, []api.Entry{entry("c", "2")}, seen)
			}
		}
	}
	each("Importing")
	has(t, s, p)
	if !slices.Equal(files(d), before) {
		t.Error("what was refused changed the files")
	}
	for _, state := range []int{api.Serving, api.Sealed} {
		sets(t, s, p, state)
		each("another state")
		refused("another state", true, nil, nil)
		refused("another state", false, []api.Entry{entry("c", "2")}, nil)
		has(t, s, p)
	}
	sets(t, s, p, api.Importing)
	offBy(t, d)
	each("off")
	is(t, "Take", s.Take(true, nil, nil), errOff)
	is(t, "Take of too much", s.Take(true, tooMuch("c"), nil), errOff)
	is(t, "Take of nothing", s.Take(false, nil, nil), errOff)
}

// tooMuch are more entries than there is room for, whose keys begin so.
func tooMuch(begin string) []api.Entry {
	var l []api.Entry
	for i := range mostContent + 1 {
		l = append(l, entry(begin+key(i), ""))
	}
	return l
}

// What there was is held against what is taken, key by key, whole or not.
func TestSd3Take(t *testing.T) {
	x := importing
	x.Span = api.Span{Lo: "b", Hi: "m"}
	right, _ := lists()
	for _, was := range right {
		for _, l := range right {
			for _, whole := range []bool{false, true} {
				d, s, p := made(t, x, was, dids(2))
				copies(t, s, p)
				ok(t, takes(t, s, p, whole, l, nil))
				has(t, s, p)
				ok(t, d.Crash(nil))
				has(t, open(t, d), p.opened())
			}
		}
	}
}

// What is told behind a Take: its keys, and, if it is whole, those that were there; where all of it fits.
func TestSd3SinceOfTake(t *testing.T) {
	for _, whole := range []bool{false, true} {
		_, s, p := made(t, importing, []api.Entry{entry("a", "1"), entry("b", "2"), entry("c", "3")}, nil)
		at := copies(t, s, p)
		ok(t, takes(t, s, p, whole, []api.Entry{entry("b", "2"), gone("c"), entry("d", "4"), gone("e")}, dids(3)))
		want := []string{"b 2", "c gone", "d 4", "e gone"}
		if whole {
			want = append([]string{"a gone"}, want...)
		}
		if got := told(t, s, at); !slices.Equal(got, want) {
			t.Errorf("Since of Take tells %q, not %q", got, want)
		}
		has(t, s, p)
		ok(t, takes(t, s, p, true, nil, nil))
		has(t, s, p)
	}
}

// Of clients the greater number stays; of the same one that of Take counts.
func TestSd3TakeOfClients(t *testing.T) {
	told := func(client, seq int, err api.Errno) api.Seen {
		return api.Seen{Client: client, Seq: seq, Reply: api.Reply{Err: err, Has: err > 0}}
	}
	for _, whole := range []bool{false, true} {
		d, s, p := made(t, importing, nil, []api.Seen{told(0, 5, 0), told(1, 5, 1), told(2, 5, 2), told(3, 5, 3)})
		ok(t, takes(t, s, p, whole, nil, []api.Seen{told(1, 4, 9), told(2, 5, 9), told(3, 6, 9), told(7, 1, 9)}))
		want := []api.Seen{told(0, 5, 0), told(1, 5, 1), told(2, 5, 9), told(3, 6, 9), told(7, 1, 9)}
		if got := s.Seen(); !alike(got, want) {
			t.Errorf("Seen answered %v, not %v", got, want)
		}
		has(t, s, p)
		ok(t, d.Crash(nil))
		has(t, open(t, d), p)
		sets(t, s, p, api.Serving)
		is(t, "what client 2 is answered", asks(t, s, p, 2, 5, 9, put("a", "1")).Err, 9)
		is(t, "what client 3 is answered", asks(t, s, p, 3, 5, 9, put("a", "1")).Err, errOld)
	}
}

// All is taken that there is room for behind it, whatever was there; and nothing of what there is none for.
func TestSd3TakeRoom(t *testing.T) {
	t.Parallel()
	other := func(n int) []api.Entry {
		return entries(mostContent+9, n, "2")
	}
	for _, clients := range []int{0, 8} {
		full := mostContent - clients
		for _, x := range []struct {
			what  string
			whole bool
			was   int
			l     []api.Entry
			seen  []api.Seen
			want  api.Errno
		}{
			{"others", true, full, other(full), nil, 0},
			{"too many others", true, full, other(full + 1), nil, errFull},
			{"others, and one stays", true, full, append(entries(0, 1, "3"), other(full-1)...), nil, 0},
			{"the same", true, full, entries(0, full, "3"), nil, 0},
			{"half of them", true, full, entries(100, 200, "3"), nil, 0},
			{"one more", false, full, other(1), nil, errFull},
			{"one more of fewer", false, full - 1, other(1), nil, 0},
			{"one more for one less", false, full, append([]api.Entry{gone(key(7))}, other(1)...), nil, 0},
			{"one more for one that was not there", false, full, append([]api.Entry{gone("a")}, other(1)...), nil, errFull},
			{"the same", false, full, entries(0, full, "3"), nil, 0},
			{"others for half", false, full, append(gones(0, 200), other(200)...), nil, 0},
			{"too many others for half", false, full, append(gones(0, 200), other(201)...), nil, errFull},
			{"a client more", false, full, nil, dids(clients + 1)[:min(clients+1, 8)], map[bool]api.Errno{true: 0, false: errFull}[clients == 8]},
			{"the same clients", false, full, nil, dids(clients), 0},
			{"nothing", false, full, nil, nil, 0},
			{"none", true, full, nil, nil, 0},
			{"many gone", false, full, gones(0, 3000), nil, 0},
			{"many gone", true, full, gones(0, 3000), nil, 0},
		} {
			for _, copied := range []bool{false, true} {
				d, s, p := made(t, importing, entries(0, x.was, "1"), dids(clients))
				if copied {
					copies(t, s, p)
				}
				before := files(d)
				is(t, "Take of "+x.what, takes(t, s, p, x.whole, x.l, x.seen), x.want)
				has(t, s, p)
				if x.want != api.OK && !slices.Equal(files(d), before) {
					t.Errorf("Take of %s changed the files", x.what)
				}
				ok(t, d.Crash(nil))
				has(t, open(t, d), p.opened())
			}
		}
	}
}

// gones are so many of neighbours' keys.
func gones(from, n int) []api.Entry {
	var l []api.Entry
	for i := range n {
		l = append(l, gone(key(from+i)))
	}
	return l
}

// A shard that is moved as the document says: copied, changed meanwhile, sealed, and taken, has what it had.
func TestSd3Move(t *testing.T) {
	for _, changes := range []int{0, 5, 100, 400} {
		_, a, p := made(t, serving, entries(0, 300, "1"), dids(2))
		l, at, err := a.Copy()
		ok(t, err)
		p.copied(at)
		x := importing
		x.Epoch = 5
		b, err := shard.Make(fs.New(), x, l, a.Seen())
		ok(t, err)
		n := noise(changes)
		for i := range changes {
			asks(t, a, p, n(8), 100+i, 4, anyOp(n, 500))
		}
		sets(t, a, p, api.Sealed)
		l, whole, err := a.Since(at)
		ok(t, err, b.Take(whole, l, a.Seen()), b.Set(api.Serving))
		x.State = api.Serving
		q := p.opened()
		q.info = x
		has(t, b, q)
	}
}

// anyEntries are entries by chance, of so many keys, and what clients did last.
func anyEntries(n func(int) int, keys, most int) ([]api.Entry, []api.Seen) {
	var l []api.Entry
	step := 1 + keys/max(most, 1)
	for i := n(step); i < keys; i += 1 + n(2*step) {
		e := entry(key(i), of("v", n(5)))
		if n(4) == 0 {
			e = gone(key(i))
		}
		l = append(l, e)
	}
	var seen []api.Seen
	for i := range mostClient + 1 {
		if n(3) == 0 {
			seen = append(seen, api.Seen{Client: i, Seq: 1 + n(40), Reply: api.Reply{Err: api.Errno(n(3)), Has: n(2) == 0}})
		}
	}
	return l, seen
}

// Runs of Take, Copy, Set and Ask, of few keys, and of more than there is room for.
func TestSd3Runs(t *testing.T) {
	t.Parallel()
	for i, keys := range []int{3, 60, 300, 600, 900} {
		t.Run(fmt.Sprint(keys), func(t *testing.T) {
			t.Parallel()
			n := noise(i)
			_, s, p := made(t, importing, nil, nil)
			for range 200 {
				switch k := n(20); {
				case k < 8:
					l, seen := anyEntries(n, keys, 1+n(keys))
					takes(t, s, p, n(3) == 0, l, seen)
				case k < 10:
					copies(t, s, p)
				case k < 12:
					sets(t, s, p, api.Importing)
				case k == 12:
					ok(t, s.Flush())
				default:
					sets(t, s, p, api.Serving)
					for range n(9) {
						asks(t, s, p, n(8), 1+n(60), 9, anyOp(n, keys))
					}
					sets(t, s, p, api.Importing)
				}
				has(t, s, p)
			}
		})
	}
}
