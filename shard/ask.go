package shard

import (
	"slices"
	"sorrel/api"
	"sorrel/once"
	"sorrel/span"
)

const (
	maxWrites = 32  // of an operation
	maxLimit  = 256 // pairs of an operation
)

// isBatch tells whether an operation may have writes.
func isBatch(l []api.Write) bool {
	if len(l) < 1 || len(l) > maxWrites {
		return false
	}
	keys := map[string]struct{}{}
	for _, w := range l {
		if !isKey(w.Key) || !isValue(w.Value) || w.Gone && w.Value != "" {
			return false
		}
		keys[w.Key] = struct{}{}
	}
	return len(keys) == len(l)
}

// mayAsk tells whether an operation may be.
func mayAsk(o api.Op) bool {
	switch o.Kind {
	case api.OpGet, api.OpPut, api.OpDelete, api.OpSwap:
		return isKey(o.Key) && isValue(o.Value) && isValue(o.Old)
	case api.OpBatch:
		return isBatch(o.Writes)
	case api.OpScan:
		return isRange(o.Span) && o.Limit >= 1 && o.Limit <= maxLimit
	}
	return false
}

// has tells whether a client's key is within its range.
func (s *Server) has(key string) bool {
	return span.Has(s.shard.Span, key)
}

// hasAll tells whether the keys of all writes are within its range.
func (s *Server) hasAll(l []api.Write) bool {
	return !slices.ContainsFunc(l, func(w api.Write) bool { return !s.has(w.Key) })
}

// begins tells whether a range begins within its range.
func (s *Server) begins(x api.Span) bool {
	both, ok := span.Meet(s.shard.Span, x)
	return ok && both.Lo == x.Lo
}

// serves tells whether it serves an operation that may be, by a map of an epoch.
func (s *Server) serves(epoch int, o api.Op) bool {
	if s.shard.State != api.Serving || s.shard.Epoch != epoch {
		return false
	}
	switch o.Kind {
	case api.OpBatch:
		return s.has(o.Writes[0].Key)
	case api.OpScan:
		return s.begins(o.Span)
	}
	return s.has(o.Key)
}

// Ask does what a client asks: the reply, and whether something was done for the first time.
func (s *Server) Ask(client, seq, epoch int, o api.Op) (api.Reply, bool, api.Errno) {
	if !s.given() || client < 0 || client >= api.MaxClients || !isNumber(seq) {
		return api.Reply{}, false, api.ErrArg
	}
	if !mayAsk(o) {
		return api.Reply{Err: api.ErrArg}, false, api.OK
	}
	if !s.serves(epoch, o) {
		return api.Reply{}, false, api.ErrStale
	}
	switch o.Kind {
	case api.OpGet:
		return s.get(o.Key), false, api.OK
	case api.OpScan:
		return s.list(o.Span, o.Limit), false, api.OK
	}
	return s.change(client, seq, o)
}

// get is the reply of a key's value.
func (s *Server) get(key string) api.Reply {
	value, has := s.value(pairBegin + key)
	return api.Reply{Value: value, Has: has}
}

// list is the reply of the first pairs of a range that begins within its own.
func (s *Server) list(x api.Span, limit int) api.Reply {
	x, _ = span.Meet(s.shard.Span, x)
	r := api.Reply{Pairs: s.pairs(x, limit), Upto: x.Hi}
	if len(r.Pairs) == limit {
		r.Upto = r.Pairs[limit-1].Key + "\x00"
	}
	return r
}

// change does an operation that changes something, if the client did not do that number, nor a later one.
func (s *Server) change(client, seq int, o api.Op) (api.Reply, bool, api.Errno) {
	did, err := once.Find(s.Seen(), client, seq)
	if err == api.OK {
		return did, false, api.OK
	}
	if err == api.ErrOld {
		return api.Reply{Err: err}, false, api.OK
	}
	if o.Kind == api.OpBatch && !s.hasAll(o.Writes) {
		return api.Reply{Err: api.ErrArg}, false, api.OK
	}
	reply, l := s.plan(o)
	l = append(l, seenWrites([]api.Seen{{Client: client, Seq: seq, Reply: reply}})...)
	switch err := s.write(l); err {
	case api.OK:
		return reply, true, api.OK
	case api.ErrFull:
		return api.Reply{Err: err}, false, api.OK
	default:
		return api.Reply{}, false, err
	}
}

// plan is the reply of an operation that changes something, and what is to be written for it.
func (s *Server) plan(o api.Op) (api.Reply, []api.Write) {
	if o.Kind == api.OpBatch {
		return api.Reply{}, ofBatch(o.Writes)
	}
	had := s.get(o.Key)
	reply := api.Reply{Has: had.Has}
	switch {
	case o.Kind == api.OpDelete:
		return reply, []api.Write{lose(o.Key)}
	case o.Kind == api.OpSwap && (o.Has != had.Has || o.Has && o.Old != had.Value):
		reply.Err = api.ErrUnlike
		return reply, nil
	}
	return reply, []api.Write{put(o.Key, o.Value)}
}
