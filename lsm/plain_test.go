package lsm_test

import (
	"fmt"
	"math"
	"slices"
	"sort"
	"strconv"
	"strings"
	"testing"

	"sorrel/api"
	"sorrel/fs"
	"sorrel/lsm"
)

// The limits, as the chapters say them.
const (
	mostKept    = 512
	mostPins    = 4
	mostWrites  = 64
	mostKey     = 64
	mostValue   = 256
	mostEntries = 4096
	mostNumber  = 1<<40 - 1
)

// of is so many bytes of one kind.
func of(b string, n int) string {
	return strings.Repeat(b, n)
}

// put is a write of a value, gone one of none.
func put(key, value string) api.Write { return api.Write{Key: key, Value: value} }
func gone(key string) api.Write       { return api.Write{Key: key, Gone: true} }

// key is a key of a number; they rise as numbers do.
func key(n int) string {
	return fmt.Sprintf("k%04d", n)
}

// puts are so many writes of neighbours' keys.
func puts(from, n int, value string) []api.Write {
	var l []api.Write
	for i := range n {
		l = append(l, put(key(from+i), value))
	}
	return l
}

// ok ends a test, if one of some calls was refused.
func ok(t *testing.T, l ...api.Errno) {
	t.Helper()
	for i, err := range l {
		if err != api.OK {
			t.Fatalf("the call at the place %d answered %d", i, err)
		}
	}
}

// is tells a call that did not answer what it should.
func is[T comparable](t *testing.T, what string, got, want T) {
	t.Helper()
	if got != want {
		t.Errorf("%s answered %v, not %v", what, got, want)
	}
}

// open is the engine of a disk.
func open(t *testing.T, d *fs.Disk) *lsm.Engine {
	t.Helper()
	x, err := lsm.Open(d)
	if x == nil || err != api.OK {
		t.Fatalf("Open answered %v, %d; the files are %q", x, err, d.Names())
	}
	return x
}

// notOpened tells an Open that was not refused so, or that changed the files.
func notOpened(t *testing.T, what string, d *fs.Disk, want api.Errno) {
	t.Helper()
	before := files(d)
	if x, err := lsm.Open(d); x != nil || err != want {
		t.Errorf("%s: Open answered %v, %d; not %d", what, x, err, want)
	}
	if got := files(d); !slices.Equal(got, before) {
		t.Errorf("%s: the files were %.300q, and are %.300q", what, before, got)
	}
}

// files are a disk's files: of each the name, the bytes, how many are sure.
func files(d *fs.Disk) []string {
	var l []string
	for _, name := range d.Names() {
		s, _ := d.Read(name)
		n, _ := d.Sure(name)
		l = append(l, name, s, strconv.Itoa(n))
	}
	return l
}

// lay puts a file on a disk, whose first bytes are sure.
func lay(t *testing.T, d *fs.Disk, name, sure, more string) {
	t.Helper()
	ok(t, d.Make(name), d.Append(name, sure), d.Sync(name), d.Append(name, more))
}

// crashed is a disk as one would be behind a crash, that stays as it is.
func crashed(t *testing.T, d *fs.Disk, keep []int) *fs.Disk {
	t.Helper()
	copied := twin(t, d)
	ok(t, copied.Crash(keep))
	return copied
}

// twin is a disk with the files of another one, of which the power is on, or was before it went off.
func twin(t *testing.T, d *fs.Disk) *fs.Disk {
	t.Helper()
	copied := fs.New()
	contents(t, d, func(name, sure, more string) { lay(t, copied, name, sure, more) })
	return copied
}

// contents tells each file of a disk: its name, the bytes that are sure, the others.
func contents(t *testing.T, d *fs.Disk, tell func(name, sure, more string)) {
	t.Helper()
	if d.Off() {
		t.Fatal("a disk whose power is off can't be read")
	}
	for _, name := range d.Names() {
		s, err := d.Read(name)
		ok(t, err)
		n, err := d.Sure(name)
		ok(t, err)
		tell(name, s[:n], s[n:])
	}
}

// chance are numbers that look like chance, the same in each run.
type chance uint64

// below is a number of 0 to n less 1.
func (c *chance) below(n int) int {
	*c = *c*6364136223846793005 + 1442695040888963407
	return int(uint64(*c) >> 33 % uint64(n))
}

// batch are so many writes by chance, of so many keys; some are gone.
func (c *chance) batch(n, keys int) []api.Write {
	var l []api.Write
	for range n {
		w := put(key(c.below(keys)), of(string(rune('a'+c.below(26))), c.below(9)))
		if c.below(4) == 0 {
			w = gone(w.Key)
		}
		l = append(l, w)
	}
	return l
}

// plain is an engine in words: all that was done, key by key, the newest first.
type plain struct {
	seq  int
	pins []int
	done map[string][]api.Entry
}

// fresh is a plain engine of nothing.
func fresh() *plain {
	return &plain{done: map[string][]api.Entry{}}
}

// clone is another one that has the same.
func (p *plain) clone() *plain {
	c := &plain{seq: p.seq, pins: slices.Clone(p.pins), done: map[string][]api.Entry{}}
	for key, l := range p.done {
		c.done[key] = l // what is done is put ahead in a new list: this one stays
	}
	return c
}

// keys are all keys that were ever written, rising.
func (p *plain) keys() []string {
	var l []string
	for key := range p.done {
		l = append(l, key)
	}
	sort.Strings(l)
	return l
}

// must is how many entries of a key must be kept, as layer 11's chapter says it.
func must(l []api.Entry, pins []int) int {
	kept := map[int]bool{}
	first := func(at int) int {
		return slices.IndexFunc(l, func(e api.Entry) bool { return e.Seq <= at })
	}
	for _, at := range append([]int{math.MaxInt}, pins...) {
		if i := first(at); i >= 0 {
			kept[i] = true
		}
	}
	last, above := -1, false
	for i := range kept {
		last = max(last, i)
	}
	if last < 0 {
		return 0
	}
	for _, at := range pins {
		above = above || l[last].Seq > at
	}
	if l[last].Gone && !above {
		delete(kept, last)
	}
	return len(kept)
}

// behind are entries that a batch puts ahead of what was done, each of the last write of its key.
func (p *plain) behind(l []api.Write) map[string][]api.Entry {
	m := map[string][]api.Entry{}
	for _, w := range l {
		e := api.Entry{Key: w.Key, Value: w.Value, Gone: w.Gone, Seq: p.seq + 1}
		m[w.Key] = append([]api.Entry{e}, p.done[w.Key]...)
	}
	return m
}

// room tells whether what must be kept is few enough behind a batch.
func (p *plain) room(l []api.Write) bool {
	more := p.behind(l)
	n := 0
	for key, done := range p.done {
		if more[key] == nil {
			n += must(done, p.pins)
		}
	}
	for _, done := range more {
		n += must(done, p.pins)
	}
	return n <= mostKept
}

// kept is how many entries must be kept.
func (p *plain) kept() int {
	n := 0
	for _, done := range p.done {
		n += must(done, p.pins)
	}
	return n
}

// write does a batch.
func (p *plain) write(l []api.Write) {
	for key, done := range p.behind(l) {
		p.done[key] = done
	}
	p.seq++
}

// get is a key's value as of a number.
func (p *plain) get(key string, at int) (string, bool) {
	for _, e := range p.done[key] {
		if e.Seq <= at {
			return e.Value, !e.Gone
		}
	}
	return "", false
}

// scan are the pairs from lo on, up to, but without, hi, so many at the most.
func (p *plain) scan(lo, hi string, at, most int) []api.Pair {
	var l []api.Pair
	for _, key := range p.keys() {
		v, ok := p.get(key, at)
		if ok && key >= lo && (hi == "" || key < hi) && len(l) < most {
			l = append(l, api.Pair{Key: key, Value: v})
		}
	}
	return l
}

// changes are the entries by which keys were changed last, behind a number.
func (p *plain) changes(at int) []api.Entry {
	var l []api.Entry
	for _, key := range p.keys() {
		if e := p.done[key][0]; e.Seq > at {
			l = append(l, e)
		}
	}
	return l
}

// write tells a Write that did not do what it should.
func write(t *testing.T, x *lsm.Engine, p *plain, l ...api.Write) {
	t.Helper()
	n, err := x.Write(l)
	p.write(l)
	if n != p.seq || err != api.OK {
		t.Fatalf("Write answered %d, %d; not %d", n, err, p.seq)
	}
}

// full tells a Write that was not refused for what must be kept.
func full(t *testing.T, x *lsm.Engine, p *plain, l ...api.Write) {
	t.Helper()
	if n, err := x.Write(l); n != 0 || err != api.ErrFull {
		t.Fatalf("Write answered %d, %d, with %d entries that must be kept", n, err, p.kept())
	}
	is(t, "Seq behind it", x.Seq(), p.seq)
}

// pin tells a Pin that did not answer what it should.
func pin(t *testing.T, x *lsm.Engine, p *plain) int {
	t.Helper()
	n, err := x.Pin()
	p.pins = append(p.pins, p.seq)
	if n != p.seq || err != api.OK {
		t.Fatalf("Pin answered %d, %d; not %d", n, err, p.seq)
	}
	return n
}

// unpin tells an Unpin that was refused.
func unpin(t *testing.T, x *lsm.Engine, p *plain, at int) {
	t.Helper()
	i := slices.Index(p.pins, at)
	p.pins = slices.Delete(p.pins, i, i+1)
	ok(t, x.Unpin(at))
}

// has tells an engine that does not have just what a plain one has.
func has(t *testing.T, x *lsm.Engine, p *plain) {
	t.Helper()
	is(t, "Seq", x.Seq(), p.seq)
	for _, at := range append([]int{p.seq}, p.pins...) {
		got, err := x.Scan(api.Span{}, at, mostEntries)
		if want := p.scan("", "", at, mostEntries); !slices.Equal(got, want) || err != api.OK {
			t.Fatalf("Scan as of %d answered %v, %d; not %v", at, got, err, want)
		}
	}
	for _, at := range p.pins {
		got, err := x.Changes(at)
		if want := p.changes(at); !slices.Equal(got, want) || err != api.OK {
			t.Fatalf("Changes of %d answered %v, %d; not %v", at, got, err, want)
		}
	}
}

// gets tells a key whose value as of some number is not what it should be.
func gets(t *testing.T, x *lsm.Engine, p *plain, keys ...string) {
	t.Helper()
	for _, key := range keys {
		for _, at := range append([]int{p.seq}, p.pins...) {
			v, there, err := x.Get(key, at)
			if want, is := p.get(key, at); v != want || there != is || err != api.OK {
				t.Fatalf("Get(%.20q, %d) answered %.20q, %t, %d; not %.20q, %t", key, at, v, there, err, want, is)
			}
		}
	}
}
