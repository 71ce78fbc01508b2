package shard

import (
	"slices"
	"sorrel/api"
	"sorrel/once"
	"sorrel/varint"
	"strings"
)

// The keys of the engine: those of clients' keys begin with a byte, those of what clients did last with another one, as layer 14 has them.
const (
	pairBegin = "u"
	pairsEnd  = "v"
	seenBegin = "t"
	shardKey  = "m"
)

// put is a client's key with a value as a write of the engine.
func put(key, value string) api.Write {
	return api.Write{Key: pairBegin + key, Value: value}
}

// lose is a client's key without a value as a write of the engine.
func lose(key string) api.Write {
	return api.Write{Key: pairBegin + key, Gone: true}
}

// writes are those of entries: of keys that go, and of keys that come, or stay.
func writes(l []api.Entry) (goes, comes []api.Write) {
	for _, e := range l {
		if e.Gone {
			goes = append(goes, lose(e.Key))
		} else {
			comes = append(comes, put(e.Key, e.Value))
		}
	}
	return goes, comes
}

// ofBatch are the writes of a client's batch as those of the engine.
func ofBatch(batch []api.Write) []api.Write {
	var l []api.Write
	for _, w := range batch {
		w.Key = pairBegin + w.Key
		l = append(l, w)
	}
	return l
}

// seenWrites are the writes of what clients did last.
func seenWrites(seen []api.Seen) []api.Write {
	var l []api.Write
	for _, x := range seen {
		w, _ := once.Write(x) // what may be is never refused
		l = append(l, w)
	}
	return l
}

// shardWrite is the write of the shard itself.
func shardWrite(x api.Shard) api.Write {
	var b strings.Builder
	// A shard that may be has numbers and keys that layer 1 never refuses.
	for _, n := range [...]int{x.Id, x.Epoch, x.Node, x.State} {
		s, _ := varint.Put(n)
		b.WriteString(s)
	}
	for _, end := range [...]string{x.Span.Lo, x.Span.Hi} {
		s, _ := varint.Text(end)
		b.WriteString(s)
	}
	return api.Write{Key: shardKey, Value: b.String()}
}

// reader is a text of which numbers and texts are taken, one behind the other.
type reader struct {
	rest  string
	wrong bool // something was not there
}

// number takes a number.
func (r *reader) number() int {
	n, size, err := varint.Take(r.rest)
	r.wrong = r.wrong || err != api.OK
	r.rest = r.rest[size:]
	return n
}

// text takes a text.
func (r *reader) text() string {
	x, size, err := varint.TakeText(r.rest)
	r.wrong = r.wrong || err != api.OK
	r.rest = r.rest[size:]
	return x
}

// shardOf is the shard of such a write's value; false: it is of none that may be.
func shardOf(s string) (api.Shard, bool) {
	r := reader{rest: s}
	x := api.Shard{Id: r.number(), Epoch: r.number(), Node: r.number(), State: r.number(), Span: api.Span{Lo: r.text(), Hi: r.text()}}
	if r.wrong || r.rest != "" || !mayBe(x) {
		return api.Shard{}, false
	}
	return x, true
}

// content are the writes of all that a shard has, itself the last one.
func content(pairs []api.Write, seen []api.Seen, x api.Shard) []api.Write {
	return slices.Concat(pairs, seenWrites(seen), []api.Write{shardWrite(x)})
}

// parts tells writes, as many as a batch may have at a time, up to where a part is refused.
func parts(l []api.Write, tell func(part []api.Write) api.Errno) api.Errno {
	for part := range slices.Chunk(l, api.MaxBatch) {
		if err := tell(part); err != api.OK {
			return err
		}
	}
	return api.OK
}

// scan are the engine's pairs within a range of its keys, so many at the most.
func (s *Server) scan(x api.Span, most int) []api.Pair {
	l, _ := s.engine.Scan(x, s.engine.Seq(), most) // as of the last batch all is seen
	return l
}

// pairs are those within a range of clients' keys, so many at the most.
func (s *Server) pairs(x api.Span, most int) []api.Pair {
	within := api.Span{Lo: pairBegin + x.Lo, Hi: pairsEnd}
	if x.Hi != "" {
		within.Hi = pairBegin + x.Hi
	}
	l := s.scan(within, most)
	for i := range l {
		l[i].Key = l[i].Key[len(pairBegin):]
	}
	return l
}

// did is what clients did last.
func (s *Server) did() ([]api.Seen, api.Errno) {
	return once.Of(s.scan(api.Span{Lo: seenBegin, Hi: pairBegin}, api.MaxEntries))
}

// value is that of an engine's key; false: it has none.
func (s *Server) value(key string) (string, bool) {
	value, ok, _ := s.engine.Get(key, s.engine.Seq())
	return value, ok
}

// kept is how many keys the engine has.
func (s *Server) kept() int {
	return len(s.scan(api.Span{}, api.MaxEntries))
}

// room tells whether there is room behind writes, each of another key.
func (s *Server) room(l []api.Write) bool {
	n := s.kept()
	for _, w := range l {
		if _, had := s.value(w.Key); had {
			n--
		}
		if !w.Gone {
			n++
		}
	}
	return n <= maxKept
}

// write does a batch.
func (s *Server) write(l []api.Write) api.Errno {
	_, err := s.engine.Write(l)
	if err == api.ErrFull && s.room(l) {
		// What was so as of the last Copy takes the room: Since tells all from now on.
		s.engine.Unpin(s.copied)
		_, err = s.engine.Write(l)
	}
	return err
}
