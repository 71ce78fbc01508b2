package shard

import (
	"slices"
	"sorrel/api"
	"sorrel/once"
	"strings"
)

// toldSeq is the Seq of all entries that are told.
const toldSeq = 1

// entries are all pairs as entries.
func (s *Server) entries() []api.Entry {
	var l []api.Entry
	for _, p := range s.Pairs() {
		l = append(l, api.Entry{Key: p.Key, Value: p.Value, Seq: toldSeq})
	}
	return l
}

// Copy are all its entries as of now, and the number from which on changes are told.
func (s *Server) Copy() ([]api.Entry, int, api.Errno) {
	if !s.given() {
		return nil, 0, api.ErrArg
	}
	s.engine.Unpin(s.copied)
	s.copied, _ = s.engine.Pin() // no other one is pinned
	return s.entries(), s.copied, api.OK
}

// Since are the entries changed behind a number; true: all entries, since that is not known any more.
func (s *Server) Since(at int) ([]api.Entry, bool, api.Errno) {
	if !s.given() {
		return nil, false, api.ErrArg
	}
	changes, err := s.engine.Changes(at)
	if err != api.OK {
		return s.entries(), true, api.OK
	}
	var l []api.Entry
	for _, e := range changes {
		if key, ok := strings.CutPrefix(e.Key, pairBegin); ok {
			l = append(l, api.Entry{Key: key, Value: e.Value, Gone: e.Gone, Seq: toldSeq})
		}
	}
	return l, false, api.OK
}

// others are the pairs whose keys are none of entries that rise.
func (s *Server) others(l []api.Entry) []api.Pair {
	return slices.DeleteFunc(s.Pairs(), func(p api.Pair) bool {
		_, named := slices.BinarySearchFunc(l, p.Key, func(e api.Entry, key string) int {
			return strings.Compare(e.Key, key)
		})
		return named
	})
}

// Take lets entries be so, and what clients did last; whole: there are no others.
func (s *Server) Take(whole bool, l []api.Entry, seen []api.Seen) api.Errno {
	if !s.given() || s.shard.State != api.Importing || !rises(l, s.shard.Span) {
		return api.ErrArg
	}
	seen, err := once.Join(seen, s.Seen())
	if err != api.OK {
		return api.ErrArg
	}
	if s.disk.Off() {
		return api.ErrOff
	}
	goes, comes := writes(l)
	var stays []api.Write
	for _, p := range s.others(l) {
		if whole {
			goes = append(goes, lose(p.Key))
		} else {
			stays = append(stays, put(p.Key, p.Value))
		}
	}
	all := content(append(stays, comes...), seen, s.shard)
	if len(all) > maxKept {
		return api.ErrFull
	}
	// What goes does so first: there never is more than before, or behind it.
	return s.take(slices.Concat(goes, comes, seenWrites(seen)), all)
}

// take does writes, of which there may be more than a batch's, so that behind a crash all are done, or none; then there is all this.
func (s *Server) take(l, all []api.Write) api.Errno {
	if len(l) <= api.MaxBatch {
		return parts(l, s.write)
	}
	if err := add(s.disk, takeName, textOf(all)); err != api.OK {
		return err
	}
	if err := parts(l, s.write); err != api.OK {
		return err
	}
	return s.disk.Remove(takeName)
}
