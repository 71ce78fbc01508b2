package shard_test

import (
	"fmt"
	"maps"
	"reflect"
	"slices"
	"strings"
	"testing"

	"sorrel/api"
	"sorrel/fs"
	"sorrel/shard"
)

// The limits, as the chapters say them.
const (
	mostKey     = 63
	mostValue   = 256
	mostNumber  = 1<<40 - 1
	mostNode    = 5
	mostClient  = 7
	mostWrites  = 32
	mostLimit   = 256
	mostContent = 511
	mostKept    = 512
)

// The errors, as the chapter says them.
const (
	errArg    api.Errno = 1
	errFull   api.Errno = 2
	errNone   api.Errno = 3
	errOff    api.Errno = 50
	errOld    api.Errno = 140
	errStale  api.Errno = 170
	errUnlike api.Errno = 171
)

// of is so many bytes of one kind.
func of(b string, n int) string {
	return strings.Repeat(b, n)
}

// key is a key of a number; they rise as numbers do.
func key(n int) string {
	return fmt.Sprintf("k%04d", n)
}

// noise are numbers below n, the same each time.
func noise(seed int) func(n int) int {
	x := uint32(seed)
	return func(n int) int {
		x = x*1664525 + 1013904223
		return int(x>>8) % n
	}
}

// entry is one with a value, gone one of none.
func entry(key, value string) api.Entry { return api.Entry{Key: key, Value: value} }
func gone(key string) api.Entry         { return api.Entry{Key: key, Gone: true} }

// entries are so many of neighbours' keys.
func entries(from, n int, value string) []api.Entry {
	var l []api.Entry
	for i := range n {
		l = append(l, entry(key(from+i), value))
	}
	return l
}

// did is what a client did last.
func did(client, seq int) api.Seen { return api.Seen{Client: client, Seq: seq} }

// dids is what so many clients did last.
func dids(n int) []api.Seen {
	var l []api.Seen
	for i := range n {
		l = append(l, did(i, 10+i))
	}
	return l
}

// The operations.
func get(key string) api.Op        { return api.Op{Kind: api.OpGet, Key: key} }
func put(key, value string) api.Op { return api.Op{Kind: api.OpPut, Key: key, Value: value} }
func del(key string) api.Op        { return api.Op{Kind: api.OpDelete, Key: key} }
func batch(l ...api.Write) api.Op  { return api.Op{Kind: api.OpBatch, Writes: l} }
func scan(lo, hi string, limit int) api.Op {
	return api.Op{Kind: api.OpScan, Span: api.Span{Lo: lo, Hi: hi}, Limit: limit}
}
func swap(key, old, value string) api.Op {
	return api.Op{Kind: api.OpSwap, Key: key, Old: old, Has: true, Value: value}
}
func swapNone(key, value string) api.Op {
	return api.Op{Kind: api.OpSwap, Key: key, Value: value}
}

// ok ends a test, if one of some calls was refused.
func ok(t *testing.T, l ...api.Errno) {
	t.Helper()
	for i, err := range l {
		if err != api.OK {
			t.Fatalf("the call at the place %d answered %d", i, err)
		}
	}
}

// is tells a call that did not answer what it should.
func is[T comparable](t *testing.T, what string, got, want T) {
	t.Helper()
	if got != want {
		t.Errorf("%s answered %v, not %v", what, got, want)
	}
}

// alike tells whether two things are the same, if an empty list is as none.
func alike[T any](a, b []T) bool {
	return len(a) == 0 && len(b) == 0 || reflect.DeepEqual(a, b)
}

// offBy lets a disk's power go off by what is none of a shard's doings.
func offBy(t *testing.T, d *fs.Disk) {
	t.Helper()
	ok(t, d.Fuse(0))
	is(t, "a doing behind a fuse of 0", d.Sync("none"), errOff)
}

// twin is another disk with the same files, of which the same bytes are sure.
func twin(t *testing.T, d *fs.Disk) *fs.Disk {
	t.Helper()
	c := fs.New()
	for _, name := range d.Names() {
		s, err := d.Read(name)
		ok(t, err)
		n, err := d.Sure(name)
		ok(t, err, c.Make(name), c.Append(name, s[:n]), c.Sync(name), c.Append(name, s[n:]))
	}
	return c
}

// files are those of a disk, each with its name, and how many of its bytes are sure.
func files(d *fs.Disk) []string {
	var l []string
	for _, name := range d.Names() {
		s, _ := d.Read(name)
		sure, _ := d.Sure(name)
		l = append(l, fmt.Sprintf("%s %d %q", name, sure, s))
	}
	return l
}

// serving is a shard of all keys that serves.
var serving = api.Shard{Id: 1, Epoch: 4, State: api.Serving}

// importing is one of all keys that is importing.
var importing = api.Shard{Id: 2, Epoch: 9, Node: 3, State: api.Importing}

// plain is a shard in words: its content, and what was written behind the last Copy.
type plain struct {
	info    api.Shard
	pairs   map[string]string
	seen    map[int]api.Seen
	known   bool // Since tells changes alone
	told    int  // by Copy
	base    map[string]bool
	written map[string]bool // keys of the engine, as are those of base
}

// blank is a shard in words without content.
func blank(x api.Shard) *plain {
	return &plain{info: x, pairs: map[string]string{}, seen: map[int]api.Seen{}}
}

// clone is another one that has the same.
func (p *plain) clone() *plain {
	c := *p
	c.pairs, c.seen, c.written = maps.Clone(p.pairs), maps.Clone(p.seen), maps.Clone(p.written)
	return &c
}

// opened is what it is when it is opened anew.
func (p *plain) opened() *plain {
	c := p.clone()
	c.known, c.base, c.written = false, nil, nil
	return c
}

// keys are its keys, rising.
func (p *plain) keys() []string {
	return slices.Sorted(maps.Keys(p.pairs))
}

// list are its pairs.
func (p *plain) list() []api.Pair {
	var l []api.Pair
	for _, k := range p.keys() {
		l = append(l, api.Pair{Key: k, Value: p.pairs[k]})
	}
	return l
}

// did is what clients did last.
func (p *plain) did() []api.Seen {
	var l []api.Seen
	for i := range mostClient + 1 {
		if x, ok := p.seen[i]; ok {
			l = append(l, x)
		}
	}
	return l
}

// all are its pairs as entries.
func (p *plain) all() []api.Entry {
	var l []api.Entry
	for _, x := range p.list() {
		l = append(l, api.Entry{Key: x.Key, Value: x.Value, Seq: 1})
	}
	return l
}

// engine are the keys of its engine.
func (p *plain) engine() map[string]bool {
	m := map[string]bool{"m": true}
	for k := range p.pairs {
		m["u"+k] = true
	}
	for i := range p.seen {
		m[fmt.Sprint("t", i)] = true
	}
	return m
}

// room tells whether there is room.
func (p *plain) room() bool {
	return len(p.pairs)+len(p.seen) <= mostContent
}

// wrote notes keys of the engine that were written. That there is too little room for what was, and what is, is layer 13's to say: then Since tells all.
func (p *plain) wrote(keys ...string) {
	if !p.known {
		return
	}
	for _, k := range keys {
		p.written[k] = true
	}
	n := len(p.base) + len(p.written)
	if n > mostKept {
		p.known = false
	}
}

// within tells whether a key is within its range.
func (p *plain) within(k string) bool {
	return k >= p.info.Span.Lo && (p.info.Span.Hi == "" || k < p.info.Span.Hi)
}

// mayBeKey is what the chapter says of a client's key.
func mayBeKey(k string) bool { return len(k) >= 1 && len(k) <= mostKey }

// mayBeSpan is what the chapter says of a range of an operation, or a shard.
func mayBeSpan(x api.Span) bool {
	return len(x.Lo) <= mostKey && len(x.Hi) <= mostKey && (x.Hi == "" || x.Lo < x.Hi)
}

// mayBeOp is what the chapter says of an operation that may be.
func mayBeOp(o api.Op) bool {
	switch o.Kind {
	case 1, 2, 3, 4:
		return mayBeKey(o.Key) && len(o.Value) <= mostValue && len(o.Old) <= mostValue
	case 5:
		for i, w := range o.Writes {
			if !mayBeKey(w.Key) || len(w.Value) > mostValue || w.Gone && w.Value != "" {
				return false
			}
			for _, x := range o.Writes[:i] {
				if x.Key == w.Key {
					return false
				}
			}
		}
		return len(o.Writes) >= 1 && len(o.Writes) <= mostWrites
	case 6:
		return mayBeSpan(o.Span) && o.Limit >= 1 && o.Limit <= mostLimit
	}
	return false
}

// stale is what the chapter says of ErrStale.
func (p *plain) stale(epoch int, o api.Op) bool {
	if p.info.State != api.Serving || epoch != p.info.Epoch {
		return true
	}
	switch o.Kind {
	case 5:
		return !p.within(o.Writes[0].Key)
	case 6:
		return o.Span.Lo < p.info.Span.Lo || p.info.Span.Hi != "" && o.Span.Lo >= p.info.Span.Hi
	}
	return !p.within(o.Key)
}

// scan is the reply of OpScan.
func (p *plain) scan(x api.Span, limit int) api.Reply {
	var r api.Reply
	for _, q := range p.list() {
		if q.Key >= x.Lo && (x.Hi == "" || q.Key < x.Hi) && len(r.Pairs) < limit {
			r.Pairs = append(r.Pairs, q)
		}
	}
	switch hi := p.info.Span.Hi; {
	case len(r.Pairs) == limit:
		r.Upto = r.Pairs[limit-1].Key + "\x00"
	case hi == "" || x.Hi != "" && x.Hi < hi:
		r.Upto = x.Hi
	default:
		r.Upto = hi
	}
	return r
}

// ask is what the chapter says of Ask, word by word.
func (p *plain) ask(client, seq, epoch int, o api.Op) (api.Reply, bool, api.Errno) {
	if client < 0 || client > mostClient || seq < 1 || seq > mostNumber {
		return api.Reply{}, false, errArg
	}
	if !mayBeOp(o) {
		return api.Reply{Err: errArg}, false, api.OK
	}
	if p.stale(epoch, o) {
		return api.Reply{}, false, errStale
	}
	switch o.Kind {
	case 1:
		v, has := p.pairs[o.Key]
		return api.Reply{Value: v, Has: has}, false, api.OK
	case 6:
		return p.scan(o.Span, o.Limit), false, api.OK
	}
	switch x := p.seen[client]; {
	case x.Seq == seq:
		return x.Reply, false, api.OK
	case x.Seq > seq:
		return api.Reply{Err: errOld}, false, api.OK
	}
	for _, w := range o.Writes {
		if o.Kind == 5 && !p.within(w.Key) {
			return api.Reply{Err: errArg}, false, api.OK
		}
	}
	next := p.clone()
	r := next.change(o)
	next.seen[client] = api.Seen{Client: client, Seq: seq, Reply: r}
	if !next.room() {
		return api.Reply{Err: errFull}, false, api.OK
	}
	next.wrote(fmt.Sprint("t", client))
	*p = *next
	return r, true, api.OK
}

// change does an operation of the last kind: its reply.
func (p *plain) change(o api.Op) api.Reply {
	v, has := p.pairs[o.Key]
	r := api.Reply{Has: has}
	switch o.Kind {
	case 2:
		p.let(api.Write{Key: o.Key, Value: o.Value})
	case 3:
		p.let(api.Write{Key: o.Key, Gone: true})
	case 4:
		if o.Has && has && v == o.Old || !o.Has && !has {
			p.let(api.Write{Key: o.Key, Value: o.Value})
		} else {
			r.Err = errUnlike
		}
	case 5:
		r = api.Reply{}
		for _, w := range o.Writes {
			p.let(w)
		}
	}
	return r
}

// let lets a key have a value, or none.
func (p *plain) let(w api.Write) {
	if w.Gone {
		delete(p.pairs, w.Key)
	} else {
		p.pairs[w.Key] = w.Value
	}
	p.wrote("u" + w.Key)
}

// mayBeEntries is what the chapter says of the entries of Make, and Take.
func (p *plain) mayBeEntries(l []api.Entry) bool {
	for i, e := range l {
		if !mayBeKey(e.Key) || !p.within(e.Key) || len(e.Value) > mostValue || i > 0 && e.Key <= l[i-1].Key {
			return false
		}
	}
	return true
}

// take is what the chapter says of Take, word by word, of what clients did last that may be, and with the power on.
func (p *plain) take(whole bool, l []api.Entry, seen []api.Seen) api.Errno {
	if p.info.State != api.Importing || !p.mayBeEntries(l) {
		return errArg
	}
	next := p.clone()
	if whole {
		for _, k := range p.keys() {
			next.let(api.Write{Key: k, Gone: true})
		}
	}
	for _, e := range l {
		next.let(api.Write{Key: e.Key, Value: e.Value, Gone: e.Gone})
	}
	for _, x := range seen {
		if x.Seq >= next.seen[x.Client].Seq {
			next.seen[x.Client] = x
		}
	}
	if !next.room() {
		return errFull
	}
	for i := range next.seen {
		next.wrote(fmt.Sprint("t", i))
	}
	*p = *next
	return api.OK
}

// set lets it be in a state.
func (p *plain) set(state int) {
	p.info.State = state
	p.wrote("m")
}

// copied notes that a Copy was done.
func (p *plain) copied(at int) {
	p.known, p.told, p.base, p.written = true, at, p.engine(), map[string]bool{}
}

// since is what the chapter says of Since.
func (p *plain) since(at int) ([]api.Entry, bool) {
	if !p.known || at != p.told {
		return p.all(), true
	}
	var l []api.Entry
	for _, k := range slices.Sorted(maps.Keys(p.written)) {
		if k[0] != 'u' {
			continue
		}
		v, has := p.pairs[k[1:]]
		l = append(l, api.Entry{Key: k[1:], Value: v, Gone: !has, Seq: 1})
	}
	return l, false
}

// median is what the chapter says of Median.
func (p *plain) median() (string, bool) {
	if l := p.keys(); len(l) >= 2 {
		return l[len(l)/2], true
	}
	return "", false
}

// made is a shard that must be given, on a new disk, and a plain one beside it.
func made(t *testing.T, x api.Shard, l []api.Entry, seen []api.Seen) (*fs.Disk, *shard.Server, *plain) {
	t.Helper()
	d, p := fs.New(), blank(x)
	s, err := shard.Make(d, x, l, seen)
	if s == nil || err != api.OK {
		t.Fatalf("Make of %v answered %v, %d", x, s, err)
	}
	for _, e := range l {
		p.let(api.Write{Key: e.Key, Value: e.Value, Gone: e.Gone})
	}
	for _, x := range seen {
		p.seen[x.Client] = x
	}
	return d, s, p
}

// open is the shard of a disk.
func open(t *testing.T, d *fs.Disk) *shard.Server {
	t.Helper()
	s, err := shard.Open(d)
	if s == nil || err != api.OK {
		t.Fatalf("Open answered %v, %d; the files are %q", s, err, d.Names())
	}
	return s
}

// notOpened tells an Open that was not refused so, or that changed the files.
func notOpened(t *testing.T, what string, d *fs.Disk, want api.Errno) {
	t.Helper()
	before := files(d)
	if s, err := shard.Open(d); s != nil || err != want {
		t.Errorf("%s: Open answered %v, %d; not %d", what, s, err, want)
	}
	if !slices.Equal(files(d), before) {
		t.Errorf("%s: Open changed the files", what)
	}
}

// differs is what a shard has otherwise than a plain one; "": nothing.
func differs(s *shard.Server, p *plain) string {
	if got := s.Info(); got != p.info {
		return fmt.Sprintf("Info answered %v, not %v", got, p.info)
	}
	if got := s.Pairs(); !slices.Equal(got, p.list()) {
		return fmt.Sprintf("Pairs answered %d, not %d, or others: %.300v", len(got), len(p.pairs), got)
	}
	if got := s.Seen(); !alike(got, p.did()) {
		return fmt.Sprintf("Seen answered %v, not %v", got, p.did())
	}
	k, has := s.Median()
	if want, is := p.median(); k != want || has != is {
		return fmt.Sprintf("Median answered %q, %t, not %q, %t", k, has, want, is)
	}
	for _, at := range []int{p.told, p.told + 1} {
		l, whole, err := s.Since(at)
		if want, all := p.since(at); !slices.Equal(l, want) || whole != all || err != api.OK {
			return fmt.Sprintf("Since(%d) answered %d, %t, %d; not %d, %t, or others: %.300v", at, len(l), whole, err, len(want), all, l)
		}
	}
	return ""
}

// has ends a test of a shard that does not have just what a plain one has.
func has(t *testing.T, s *shard.Server, p *plain) {
	t.Helper()
	if x := differs(s, p); x != "" {
		t.Fatal(x)
	}
}

// asks tells an Ask that did not answer what it should; what it answered.
func asks(t *testing.T, s *shard.Server, p *plain, client, seq, epoch int, o api.Op) api.Reply {
	t.Helper()
	r, first, err := s.Ask(client, seq, epoch, o)
	want, now, wrong := p.ask(client, seq, epoch, o)
	if !same(r, want) || first != now || err != wrong {
		t.Fatalf("Ask(%d, %d, %d, %.200v) answered %.200v, %t, %d; not %.200v, %t, %d", client, seq, epoch, o, r, first, err, want, now, wrong)
	}
	return r
}

// same tells whether two replies are the same.
func same(a, b api.Reply) bool {
	pairs := slices.Equal(a.Pairs, b.Pairs)
	a.Pairs, b.Pairs = nil, nil
	return pairs && reflect.DeepEqual(a, b)
}

// copies lets a shard be copied.
func copies(t *testing.T, s *shard.Server, p *plain) int {
	t.Helper()
	l, at, err := s.Copy()
	if !slices.Equal(l, p.all()) || at < 1 || err != api.OK {
		t.Fatalf("Copy answered %d entries, %d, %d", len(l), at, err)
	}
	p.copied(at)
	return at
}

// takes tells a Take that did not answer what it should.
func takes(t *testing.T, s *shard.Server, p *plain, whole bool, l []api.Entry, seen []api.Seen) api.Errno {
	t.Helper()
	err := s.Take(whole, l, seen)
	if want := p.take(whole, l, seen); err != want {
		t.Fatalf("Take(%t, %d entries, %v) answered %d, not %d", whole, len(l), seen, err, want)
	}
	return err
}

// sets lets a shard be in a state.
func sets(t *testing.T, s *shard.Server, p *plain, state int) {
	t.Helper()
	ok(t, s.Set(state))
	p.set(state)
}
