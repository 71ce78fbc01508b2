package merge_test

import (
	"iter"
	"math"
	"slices"
	"strconv"
	"strings"
	"testing"

	"sorrel/api"
	"sorrel/merge"
)

// The limits, as the chapters say them.
const (
	mostKey     = 64
	mostValue   = 256
	mostEntries = 1 << 12
	mostSeq     = 1<<40 - 1
)

// of is so many bytes of one kind.
func of(b string, n int) string {
	return strings.Repeat(b, n)
}

// with is an entry that has a value.
func with(key, value string, seq int) api.Entry {
	return api.Entry{Key: key, Value: value, Seq: seq}
}

// gone is an entry that has none.
func gone(key string, seq int) api.Entry {
	return api.Entry{Key: key, Gone: true, Seq: seq}
}

// stands is what layer 9's chapter says of an entry that stands ahead of another one.
func stands(a, b api.Entry) bool {
	return a.Key < b.Key || a.Key == b.Key && a.Seq > b.Seq
}

// single is what layer 9's chapter says of an entry that may be.
func single(e api.Entry) bool {
	if len(e.Key) < 1 || len(e.Key) > mostKey || len(e.Value) > mostValue || e.Gone && len(e.Value) > 0 {
		return false
	}
	return 1 <= e.Seq && e.Seq <= mostSeq
}

// right is what layer 9's chapter says of entries that may be a block's.
func right(l []api.Entry) bool {
	if len(l) > mostEntries {
		return false
	}
	for i, e := range l {
		if !single(e) || i+1 < len(l) && !stands(e, l[i+1]) {
			return false
		}
	}
	return true
}

// merged is what the chapter says of lists that may be merged: again and again the entry that no other one stands ahead of.
func merged(lists [][]api.Entry) []api.Entry {
	heads := slices.Clone(lists)
	var all []api.Entry
	for {
		first := -1
		for i, l := range heads {
			if len(l) > 0 && (first < 0 || stands(l[0], heads[first][0])) {
				first = i
			}
		}
		if first < 0 {
			return all
		}
		e := heads[first][0]
		all = append(all, e)
		for i, l := range heads {
			if len(l) > 0 && l[0].Key == e.Key && l[0].Seq == e.Seq {
				heads[i] = l[1:]
			}
		}
	}
}

// firstOf is the place of the first entry of a key whose number is not above one; -1: there is none.
func firstOf(l []api.Entry, key string, at int) int {
	for i, e := range l {
		if e.Key == key && e.Seq <= at {
			return i
		}
	}
	return -1
}

// visible is what the chapter says of Visible, word by word.
func visible(l []api.Entry, at int) []api.Pair {
	var pairs []api.Pair
	for i, e := range l {
		if right(l) && firstOf(l, e.Key, at) == i && !e.Gone {
			pairs = append(pairs, api.Pair{Key: e.Key, Value: e.Value})
		}
	}
	return pairs
}

// since is what the chapter says of Since, word by word.
func since(l []api.Entry, at int) []api.Entry {
	var changed []api.Entry
	for i, e := range l {
		if right(l) && firstOf(l, e.Key, math.MaxInt) == i && e.Seq > at {
			changed = append(changed, e)
		}
	}
	return changed
}

// pruned is what the chapter says of Prune, word by word.
func pruned(l []api.Entry, pins []int, bottom bool) []api.Entry {
	if !right(l) {
		return nil
	}
	keep := make([]bool, len(l))
	for i, e := range l {
		keep[i] = firstOf(l, e.Key, math.MaxInt) == i
		for _, pin := range pins {
			keep[i] = keep[i] || firstOf(l, e.Key, pin) == i
		}
	}
	isLast := func(i int) bool {
		for j := i + 1; j < len(l); j++ {
			if keep[j] && l[j].Key == l[i].Key {
				return false
			}
		}
		return keep[i]
	}
	var kept []api.Entry
	for i, e := range l {
		above := slices.ContainsFunc(pins, func(pin int) bool { return e.Seq > pin })
		if keep[i] && !(bottom && isLast(i) && e.Gone && !above) {
			kept = append(kept, e)
		}
	}
	return kept
}

// shown are entries as a test tells them: the first few, without most of what is long.
func shown(l ...api.Entry) string {
	cut := func(s string) string { return strconv.Quote(s[:min(len(s), 12)]) }
	s := strconv.Itoa(len(l)) + " entries"
	for _, e := range l[:min(len(l), 8)] {
		s += ", " + cut(e.Key) + " " + strconv.Itoa(e.Seq)
		if e.Gone {
			s += " gone"
		}
		s += " " + cut(e.Value)
	}
	return s
}

// shownAll are lists as a test tells them.
func shownAll(lists [][]api.Entry) string {
	s := strconv.Itoa(len(lists)) + " lists"
	for _, l := range lists[:min(len(lists), 6)] {
		s += "; " + shown(l...)
	}
	return s
}

// noise are numbers below n, the same each time.
func noise(seed uint32) func(n int) int {
	return func(n int) int {
		seed = seed*1664525 + 1013904223
		return int(seed>>8) % n
	}
}

// named are keys with numbers behind, so many, rising.
func named(n int) []string {
	var keys []string
	for i := range n {
		keys = append(keys, "key"+strconv.Itoa(1_000_000+i*7))
	}
	return keys
}

// plain are so many entries, each of a key of its own.
func plain(n int) []api.Entry {
	var l []api.Entry
	for i, key := range named(n) {
		l = append(l, with(key, strconv.Itoa(i), i+1))
	}
	return l
}

// run are entries of one key, of the numbers from most down to least.
func run(key string, most, least int) []api.Entry {
	var l []api.Entry
	for seq := most; seq >= least; seq-- {
		l = append(l, with(key, strconv.Itoa(seq), seq))
	}
	return l
}

// edges are keys of bytes of all kinds, of beginnings of others, of lengths at the limit.
func edges() []string {
	l := []string{"\x00", "\x00\x00", "\n", "#", "a", "a\x00", "a\xff", "aa", "ab", "abc", "abd", "ac", "b", "\x7f", "\x80", "\xff", "\xff\xff", "\u00e9"}
	for _, b := range []string{"\x00", "a", "\xff"} {
		l = append(l, of(b, 63), of(b, 64), of(b, 63)+"b", of(b, 32)+of("b", 32))
	}
	slices.Sort(l)
	return slices.Compact(l)
}

// some are entries of some of these rising keys, of some of the numbers up to one; who tells lists apart by their values.
func some(next func(int) int, keys []string, upto int, who string) []api.Entry {
	var l []api.Entry
	for _, key := range keys {
		for seq := upto; seq > 0; seq-- {
			switch next(6) {
			case 0, 1:
				l = append(l, with(key, who+strconv.Itoa(seq), seq))
			case 2:
				l = append(l, gone(key, seq))
			}
		}
	}
	return l
}

// several are lists that may be merged, in many ways, and entries that stand in several of them.
func several() map[string][][]api.Entry {
	m := map[string][][]api.Entry{
		"no lists":         nil,
		"no lists at all":  {},
		"a list of none":   {nil},
		"lists of none":    {nil, {}, nil, {}},
		"one":              {{with("a", "x", 1)}},
		"one gone":         {{gone("a", 1)}},
		"one, among none":  {nil, {with("a", "x", 1)}, nil},
		"the same twice":   {{with("a", "x", 1)}, {with("a", "x", 1)}},
		"two values":       {{with("a", "x", 1)}, {with("a", "y", 1)}},
		"two values, y":    {{with("a", "y", 1)}, {with("a", "x", 1)}},
		"gone ahead":       {{gone("a", 1)}, {with("a", "y", 1)}},
		"gone behind":      {{with("a", "y", 1)}, {gone("a", 1)}},
		"three values":     {{with("a", "1", 7)}, {with("a", "2", 7)}, {with("a", "3", 7)}},
		"the second has":   {{with("b", "1", 7)}, {with("a", "2", 7)}, {with("a", "3", 7)}},
		"numbers between":  {{with("a", "1", 9), with("a", "2", 4)}, {with("a", "3", 7), with("a", "4", 4), with("a", "5", 1)}},
		"keys between":     {{with("a", "1", 1), with("c", "2", 9)}, {with("b", "3", 5), with("d", "4", 2)}},
		"one behind":       {plain(9)[5:], plain(9)[:5]},
		"a list itself":    {plain(9), plain(9), plain(9)},
		"a beginning":      {{with("ab", "", 1), with("b", "", 1)}, {with("a", "", 1), with("a\x00", "", 1), with("abc", "", 1)}},
		"bytes above 127":  {{with("\x80", "", 1)}, {with("\x7f", "", 1), with("\xff", "", 1)}, {with("\x00", "", 1), with("\u00e9", "", 1)}},
		"greatest":         {{with(of("\xff", mostKey), of("\xff", mostValue), mostSeq)}, {gone(of("\xff", mostKey), mostSeq-1)}},
		"numbers' edges":   {{with("a", "", mostSeq), gone("a", 1)}, {gone("a", mostSeq), with("a", "", 2), with("a", "x", 1)}},
		"keys like others": {{with("a", "1", 23)}, {with("a2", "2", 3)}, {with("a23", "3", 1)}},
		"one key":          {run("k", 60, 20), run("k", 40, 1), run("k", 90, 50)},
	}
	for i := range 60 {
		next := noise(uint32(i))
		var lists [][]api.Entry
		for who := range 1 + next(5) {
			keys := []string{"a", "b", "c"}
			if i%3 == 0 {
				keys = edges()
			}
			lists = append(lists, some(next, keys, 1+next(6), string(rune('A'+who))))
		}
		m["mixed "+strconv.Itoa(i)] = lists
	}
	return m
}

// wrongs are entries that may not be.
func wrongs() map[string]api.Entry {
	return map[string]api.Entry{
		"zero":                      {},
		"without a key":             with("", "x", 5),
		"with a key of 65 bytes":    with(of("k", 65), "x", 5),
		"with a value of 257 bytes": with("k", of("v", 257), 5),
		"gone, with a value":        {Key: "k", Value: "x", Gone: true, Seq: 5},
		"of the number 0":           with("k", "x", 0),
		"gone, of the number 0":     gone("k", 0),
		"of the number -1":          with("k", "x", -1),
		"of the least number":       with("k", "x", math.MinInt),
		"of the number 2^40":        with("k", "x", 1<<40),
		"of the greatest number":    gone("k", math.MaxInt),
	}
}

// refused are entries that may not be a block's, by what is wrong.
func refused() map[string][]api.Entry {
	m := map[string][]api.Entry{
		"keys that fall":             {with("b", "", 1), with("a", "", 1)},
		"a beginning behind":         {with("ab", "", 1), with("a", "", 1)},
		"bytes above 127 ahead":      {with("\x80", "", 1), with("\x7f", "", 1)},
		"numbers that rise":          {with("a", "", 4), with("a", "", 5)},
		"one twice":                  {with("a", "x", 4), with("a", "x", 4)},
		"one number with two values": {with("a", "x", 4), with("a", "y", 4)},
		"one number, gone":           {gone("a", 4), with("a", "y", 4)},
		"a key in two places":        {with("a", "", 4), with("b", "", 4), with("a", "", 3)},
		"the last one twice":         append(plain(9), plain(9)[8]),
		"4097":                       plain(mostEntries + 1),
		"4097 of one key":            run("k", mostEntries+1, 1),
		"8192":                       plain(2 * mostEntries),
	}
	for name, e := range wrongs() {
		m["alone: "+name] = []api.Entry{e}
		m["first: "+name] = []api.Entry{e, with("z", "", 1)}
		m["last: "+name] = []api.Entry{with("a", "", 1), with("b", "", 1), e}
		m["midst: "+name] = []api.Entry{with("a", "", 1), e, with("z", "", 1)}
	}
	return m
}

// twice are lists and all that they hold, apart from them.
func twice(lists [][]api.Entry) [][]api.Entry {
	var l [][]api.Entry
	for _, one := range lists {
		l = append(l, slices.Clone(one))
	}
	return l
}

// same tells if lists hold the same.
func same(a, b [][]api.Entry) bool {
	return slices.EqualFunc(a, b, func(x, y []api.Entry) bool { return slices.Equal(x, y) })
}

// upto is what an iterator goes over, if it is let go on so often; that it goes on when it is not ends the test.
func upto(t *testing.T, each iter.Seq[api.Entry], most int) []api.Entry {
	t.Helper()
	var l []api.Entry
	each(func(e api.Entry) bool {
		if len(l) >= most {
			t.Fatalf("it goes on behind %d entries", most)
		}
		l = append(l, e)
		return len(l) < most
	})
	return l
}

func TestMe1Named(t *testing.T) {
	a := []api.Entry{with("a", "x", 9), gone("a", 4), with("b", "1", 2)}
	b := []api.Entry{gone("a", 9), with("a", "y", 5), gone("a", 4), with("a", "z", 3), with("c", "2", 8)}
	for _, c := range []struct {
		lists [][]api.Entry
		want  []api.Entry
	}{
		{nil, nil},
		{[][]api.Entry{nil, {}}, nil},
		{[][]api.Entry{a}, a},
		{[][]api.Entry{a, nil}, a},
		{[][]api.Entry{nil, b}, b},
		{[][]api.Entry{a, a, a}, a},
		{[][]api.Entry{a, b}, []api.Entry{with("a", "x", 9), with("a", "y", 5), gone("a", 4), with("a", "z", 3), with("b", "1", 2), with("c", "2", 8)}},
		{[][]api.Entry{b, a}, []api.Entry{gone("a", 9), with("a", "y", 5), gone("a", 4), with("a", "z", 3), with("b", "1", 2), with("c", "2", 8)}},
		{[][]api.Entry{{with("a", "", 9)}, {with("a", "1", 9)}, {gone("a", 9)}}, []api.Entry{with("a", "", 9)}},
		{[][]api.Entry{{with("b", "1", 1)}, {with("a", "2", 1)}}, []api.Entry{with("a", "2", 1), with("b", "1", 1)}},
		{[][]api.Entry{{with("a", "1", 1)}, {with("a", "2", 2)}}, []api.Entry{with("a", "2", 2), with("a", "1", 1)}},
	} {
		if l := slices.Collect(merge.Each(c.lists)); !slices.Equal(l, c.want) {
			t.Errorf("Each(%s) goes over %s", shownAll(c.lists), shown(l...))
		}
		if l, err := merge.Merge(c.lists); !slices.Equal(l, c.want) || err != api.OK {
			t.Errorf("Merge(%s) is %s, %d", shownAll(c.lists), shown(l...), err)
		}
	}
}

func TestMe1AsSaid(t *testing.T) {
	for name, lists := range several() {
		was, want := twice(lists), merged(lists)
		if l := slices.Collect(merge.Each(lists)); !slices.Equal(l, want) {
			t.Errorf("%s: Each(%s) goes over %s", name, shownAll(lists), shown(l...))
		}
		if l, err := merge.Merge(lists); !slices.Equal(l, want) || err != api.OK {
			t.Errorf("%s: Merge(%s) is %s, %d", name, shownAll(lists), shown(l...), err)
		}
		if !same(lists, was) {
			t.Errorf("%s: the lists were changed", name)
		}
	}
}

// eachList tells all lists of one key and the numbers 1 to most: each is missing, with a value, or gone.
func eachList(key, value string, most int, tell func([]api.Entry)) {
	if most == 0 {
		tell(nil)
		return
	}
	eachList(key, value, most-1, func(l []api.Entry) {
		tell(l)
		tell(slices.Insert(slices.Clone(l), 0, with(key, value+strconv.Itoa(most), most)))
		tell(slices.Insert(slices.Clone(l), 0, gone(key, most)))
	})
}

// Of all triples of short lists each entry is that of the first list that has it.
func TestMe1AllShort(t *testing.T) {
	eachList("k", "x", 2, func(a []api.Entry) {
		eachList("k", "y", 3, func(b []api.Entry) {
			eachList("k", "z", 2, func(c []api.Entry) {
				lists := [][]api.Entry{a, b, c}
				if l, err := merge.Merge(lists); !slices.Equal(l, merged(lists)) || err != api.OK {
					t.Fatalf("Merge(%s) is %s, %d", shownAll(lists), shown(l...), err)
				}
			})
		})
	})
}

// It goes on as long as it is let, and no longer.
func TestMe1AsLongAsItIsLet(t *testing.T) {
	for name, lists := range several() {
		want := merged(lists)
		each := merge.Each(lists)
		for n := 1; n <= len(want); n++ {
			if l := upto(t, each, n); !slices.Equal(l, want[:n]) {
				t.Errorf("%s: the first %d are %s", name, n, shown(l...))
			}
		}
	}
}

// It goes over all each time that it is gone over, one time within another one too.
func TestMe1GoneOverAgain(t *testing.T) {
	lists := [][]api.Entry{plain(5), run("a", 4, 1), plain(7)}
	want := merged(lists)
	each := merge.Each(lists)
	outer := 0
	for e := range each {
		if e != want[outer] {
			t.Errorf("the entry %d is %s", outer, shown(e))
		}
		outer++
		if l := slices.Collect(each); !slices.Equal(l, want) {
			t.Errorf("within, it goes over %s", shown(l...))
		}
		if l := upto(t, each, 2); !slices.Equal(l, want[:2]) {
			t.Errorf("within, the first two are %s", shown(l...))
		}
	}
	if outer != len(want) {
		t.Errorf("it goes over %d entries", outer)
	}
}

// Lists are not kept: what is gone over is what they were with the call.
func TestMe1ListsAreNotKept(t *testing.T) {
	lists := [][]api.Entry{{with("a", "1", 1), with("c", "2", 2)}, {with("b", "3", 3)}}
	want := merged(lists)
	each := merge.Each(lists)
	lists[0][0], lists[0][1] = with("y", "y", 9), with("x", "x", 9)
	if l := slices.Collect(each); !slices.Equal(l, want) {
		t.Errorf("behind a change of a list it goes over %s", shown(l...))
	}
	n := 0
	for e := range each {
		if e != want[n] {
			t.Errorf("the entry %d is %s", n, shown(e))
		}
		lists[0], lists[1] = nil, []api.Entry{{}}
		n++
	}
	if n != len(want) {
		t.Errorf("behind a change of the lists it goes over %d entries", n)
	}
	bad := [][]api.Entry{{with("b", "", 1), with("a", "", 1)}}
	none := merge.Each(bad)
	bad[0] = bad[0][1:]
	if l := slices.Collect(none); len(l) != 0 {
		t.Errorf("of lists that might not be merged it goes over %s", shown(l...))
	}
}

// overNothing tells what is wrong, if lists are merged that may not be.
func overNothing(t *testing.T, what string, lists [][]api.Entry) {
	t.Helper()
	for e := range merge.Each(lists) {
		t.Fatalf("%s: Each goes over %s", what, shown(e))
	}
	if l, err := merge.Merge(lists); len(l) != 0 || err != api.ErrArg {
		t.Fatalf("%s: Merge is %s, %d", what, shown(l...), err)
	}
}

func TestMe1Refuses(t *testing.T) {
	for name, bad := range refused() {
		if right(bad) {
			t.Fatalf("%s: the test's own entries may be a block's", name)
		}
		good := []api.Entry{with("a", "x", 9), gone("b", 8)}
		overNothing(t, name, [][]api.Entry{bad})
		overNothing(t, name+", first", [][]api.Entry{bad, good, good})
		overNothing(t, name+", midst", [][]api.Entry{good, bad, nil})
		overNothing(t, name+", last", [][]api.Entry{nil, good, bad})
		overNothing(t, name+", twice", [][]api.Entry{bad, bad})
	}
}

// That lists may not be merged is told, though they are more than a limit lets too.
func TestMe1ArgAheadOfFull(t *testing.T) {
	overNothing(t, "more, and a wrong one last", [][]api.Entry{plain(mostEntries), run("k", 2, 1), {{}}})
	overNothing(t, "more, and a wrong one first", [][]api.Entry{{{}}, plain(mostEntries), run("k", 2, 1)})
	overNothing(t, "4097 in one", [][]api.Entry{plain(mostEntries + 1)})
}

// full tells what is wrong, if Merge does not refuse lists of more entries than there may be, or Each does not go over them.
func full(t *testing.T, what string, lists [][]api.Entry) {
	t.Helper()
	if l, err := merge.Merge(lists); len(l) != 0 || err != api.ErrFull {
		t.Errorf("%s: Merge is %s, %d", what, shown(l...), err)
	}
	if l := slices.Collect(merge.Each(lists)); !slices.Equal(l, merged(lists)) || len(l) <= mostEntries {
		t.Errorf("%s: Each goes over %s", what, shown(l...))
	}
}

// most tells what is wrong, if Merge refuses lists of as many entries as there may be.
func most(t *testing.T, what string, lists [][]api.Entry) {
	t.Helper()
	if l, err := merge.Merge(lists); !slices.Equal(l, merged(lists)) || len(l) != mostEntries || err != api.OK {
		t.Errorf("%s: Merge is %s, %d", what, shown(l...), err)
	}
}

func TestMe1Limit(t *testing.T) {
	l := plain(mostEntries + 1)
	most(t, "one", [][]api.Entry{l[:mostEntries]})
	most(t, "one and none", [][]api.Entry{l[:mostEntries], nil})
	most(t, "two", [][]api.Entry{l[:100], l[100:mostEntries]})
	most(t, "the same twice", [][]api.Entry{l[1:], l[1:]})
	most(t, "about the same", [][]api.Entry{l[:mostEntries-1], l[1:mostEntries]})
	most(t, "one key", [][]api.Entry{run("k", 3000, 1), run("k", mostEntries, 2000)})
	full(t, "one more", [][]api.Entry{l[:mostEntries], l[mostEntries:]})
	full(t, "one more ahead", [][]api.Entry{l[1:], l[:1]})
	full(t, "one more, of all others twice", [][]api.Entry{l[:mostEntries], l[1:]})
	full(t, "one more of one key", [][]api.Entry{run("k", mostEntries, 1), run("k", mostEntries+1, mostEntries+1)})
	full(t, "twice", [][]api.Entry{l[:mostEntries], run("k", mostEntries, 1)})
	full(t, "five times", [][]api.Entry{l[:mostEntries], run("a", mostEntries, 1), run("z", mostEntries, 1), run("k", mostEntries, 1), run("k", mostEntries+9, 10)})
}

// Lists may be many.
func TestMe1ManyLists(t *testing.T) {
	var lists [][]api.Entry
	for i := range mostEntries {
		lists = append(lists, []api.Entry{with("k", "", mostEntries-i)})
	}
	want := lists[0]
	for _, l := range lists[1:] {
		want = append(want, l...)
	}
	for range 2 {
		slices.Reverse(lists)
		if l, err := merge.Merge(lists); !slices.Equal(l, want) || err != api.OK {
			t.Errorf("Merge of %d lists is %s, %d", len(lists), shown(l...), err)
		}
	}
	lists = slices.Repeat([][]api.Entry{{with("a", "other", 1)}}, 200_000)
	lists[0] = []api.Entry{with("a", "first", 1)}
	if l, err := merge.Merge(lists); !slices.Equal(l, []api.Entry{with("a", "first", 1)}) || err != api.OK {
		t.Errorf("Merge of %d lists is %s, %d", len(lists), shown(l...), err)
	}
}

// whole are entries in room behind whose end others lie, that may not be.
func whole(l []api.Entry) []api.Entry {
	return append(slices.Clone(l), with("a", "wrong", 1), api.Entry{})[:len(l)]
}

// What lies in the room behind a list's end is neither read nor changed; an answer's list is new.
func TestMe1RoomBehind(t *testing.T) {
	a, b := whole(plain(3)), whole(run("k", 3, 1))
	lists := [][]api.Entry{a, b, {{}}}[:2]
	want := merged(lists)
	wasA, wasB := slices.Clone(a[:5]), slices.Clone(b[:5])
	l, err := merge.Merge(lists)
	if !slices.Equal(l, want) || err != api.OK {
		t.Errorf("Merge is %s, %d", shown(l...), err)
	}
	l = l[:cap(l)]
	for i := range l {
		l[i] = with("q", "q", 1)
	}
	if l, err := merge.Merge(lists); !slices.Equal(l, want) || err != api.OK {
		t.Errorf("behind a change of an answer Merge is %s, %d", shown(l...), err)
	}
	if one, err := merge.Merge([][]api.Entry{a}); err != api.OK || len(one) != 3 || &one[0] == &a[0] {
		t.Errorf("Merge of one list is %s, %d, or that list itself", shown(one...), err)
	}
	if !slices.Equal(a[:5], wasA) || !slices.Equal(b[:5], wasB) || len(lists[:3][2]) != 1 {
		t.Error("lists were changed, or what lies behind them")
	}
}

// story is the chapter's example, and two keys more.
func story() []api.Entry {
	return []api.Entry{with("a", "x", 9), gone("a", 4), with("a", "y", 2), gone("b", 7), with("b", "", 5), with("c", "z", 3), gone("d", 6)}
}

func TestMe2VisibleNamed(t *testing.T) {
	for _, c := range []struct {
		at   int
		want []api.Pair
	}{
		{math.MaxInt, []api.Pair{{Key: "a", Value: "x"}, {Key: "c", Value: "z"}}},
		{9, []api.Pair{{Key: "a", Value: "x"}, {Key: "c", Value: "z"}}},
		{8, []api.Pair{{Key: "c", Value: "z"}}},
		{7, []api.Pair{{Key: "c", Value: "z"}}},
		{6, []api.Pair{{Key: "b"}, {Key: "c", Value: "z"}}},
		{5, []api.Pair{{Key: "b"}, {Key: "c", Value: "z"}}},
		{4, []api.Pair{{Key: "c", Value: "z"}}},
		{3, []api.Pair{{Key: "a", Value: "y"}, {Key: "c", Value: "z"}}},
		{2, []api.Pair{{Key: "a", Value: "y"}}},
		{1, nil}, {0, nil}, {-1, nil}, {math.MinInt, nil},
	} {
		if p := merge.Visible(story(), c.at); !slices.Equal(p, c.want) {
			t.Errorf("Visible as of %d are %v", c.at, p)
		}
	}
}

func TestMe2SinceNamed(t *testing.T) {
	l := story()
	for _, c := range []struct {
		at   int
		want []api.Entry
	}{
		{math.MinInt, []api.Entry{l[0], l[3], l[5], l[6]}},
		{0, []api.Entry{l[0], l[3], l[5], l[6]}},
		{2, []api.Entry{l[0], l[3], l[5], l[6]}},
		{3, []api.Entry{l[0], l[3], l[6]}},
		{5, []api.Entry{l[0], l[3], l[6]}},
		{6, []api.Entry{l[0], l[3]}},
		{7, []api.Entry{l[0]}},
		{8, []api.Entry{l[0]}},
		{9, nil}, {mostSeq, nil}, {math.MaxInt, nil},
	} {
		if got := merge.Since(l, c.at); !slices.Equal(got, c.want) {
			t.Errorf("Since %d are %s", c.at, shown(got...))
		}
	}
}

func TestMe2PruneNamed(t *testing.T) {
	l := story()
	for _, c := range []struct {
		pins   []int
		bottom bool
		want   []api.Entry
	}{
		{nil, false, []api.Entry{l[0], l[3], l[5], l[6]}},
		{nil, true, []api.Entry{l[0], l[5]}},
		{[]int{}, true, []api.Entry{l[0], l[5]}},
		{[]int{3}, false, []api.Entry{l[0], l[2], l[3], l[5], l[6]}},
		{[]int{3}, true, []api.Entry{l[0], l[2], l[3], l[5], l[6]}},
		{[]int{4}, false, []api.Entry{l[0], l[1], l[3], l[5], l[6]}},
		{[]int{4}, true, []api.Entry{l[0], l[3], l[5], l[6]}},
		{[]int{4, 3}, true, []api.Entry{l[0], l[1], l[2], l[3], l[5], l[6]}},
		{[]int{3, 4, 3, 4}, true, []api.Entry{l[0], l[1], l[2], l[3], l[5], l[6]}},
		{[]int{5}, true, []api.Entry{l[0], l[3], l[4], l[5], l[6]}},
		{[]int{6}, true, []api.Entry{l[0], l[3], l[4], l[5]}},
		{[]int{7}, true, []api.Entry{l[0], l[5]}},
		{[]int{7}, false, []api.Entry{l[0], l[1], l[3], l[5], l[6]}},
		{[]int{7, 6}, true, []api.Entry{l[0], l[3], l[4], l[5]}},
		{[]int{9}, true, []api.Entry{l[0], l[5]}},
		{[]int{0}, true, []api.Entry{l[0], l[3], l[5], l[6]}},
		{[]int{-1}, true, []api.Entry{l[0], l[3], l[5], l[6]}},
		{[]int{math.MinInt}, true, []api.Entry{l[0], l[3], l[5], l[6]}},
		{[]int{math.MaxInt}, true, []api.Entry{l[0], l[5]}},
		{[]int{math.MaxInt, math.MinInt}, true, []api.Entry{l[0], l[3], l[5], l[6]}},
		{[]int{9, 8, 7, 6, 5, 4, 3, 2, 1, 0}, true, l},
		{[]int{2, 4, 5, 9}, false, l},
	} {
		if got := merge.Prune(l, c.pins, c.bottom); !slices.Equal(got, c.want) {
			t.Errorf("Prune with %v, %t is %s", c.pins, c.bottom, shown(got...))
		}
	}
}

// The chapter's example.
func TestMe2PruneExample(t *testing.T) {
	l := []api.Entry{with("a", "x", 9), gone("a", 4), with("a", "y", 2)}
	for _, bottom := range []bool{false, true} {
		if got := merge.Prune(l, []int{3}, bottom); !slices.Equal(got, []api.Entry{l[0], l[2]}) {
			t.Errorf("Prune with the pin 3, %t is %s", bottom, shown(got...))
		}
	}
}

// Only the last one that is kept of a key may be left out: not one above that is gone too, nor one that is not gone.
func TestMe2PruneLastOnly(t *testing.T) {
	l := []api.Entry{gone("a", 8), gone("a", 6), gone("a", 4), with("a", "x", 2)}
	for _, c := range []struct {
		pins []int
		want []api.Entry
	}{
		{nil, nil},
		{[]int{8}, nil},
		{[]int{7}, l[:1]},
		{[]int{7, 9}, l[:1]},
		{[]int{5}, l[:1]},
		{[]int{7, 5}, l[:2]},
		{[]int{8, 7, 6, 5, 4}, l[:2]},
		{[]int{3}, []api.Entry{l[0], l[3]}},
		{[]int{1}, l[:1]},
		{[]int{7, 5, 1}, l[:3]},
		{[]int{7, 5, 2}, l},
	} {
		if got := merge.Prune(l, c.pins, true); !slices.Equal(got, c.want) {
			t.Errorf("Prune with %v is %s", c.pins, shown(got...))
		}
	}
}

// sets are all lists of numbers from 0 up to most, each once.
func sets(most int) [][]int {
	l := [][]int{nil}
	for n := range most + 1 {
		for _, set := range l {
			l = append(l, append(slices.Clone(set), n))
		}
	}
	return l
}

// eachPair tells all lists of two keys and the numbers up to those.
func eachPair(a, b int, tell func([]api.Entry)) {
	eachList("a", "x", a, func(l []api.Entry) {
		eachList("ab", "y", b, func(more []api.Entry) { tell(slices.Concat(l, more)) })
	})
}

// held holds the three calls against the chapter's words; that they differ ends the test.
func held(t *testing.T, l []api.Entry, pins []int) {
	t.Helper()
	for _, bottom := range []bool{false, true} {
		if got := merge.Prune(l, pins, bottom); !slices.Equal(got, pruned(l, pins, bottom)) {
			t.Fatalf("Prune(%s; %v, %t) is %s", shown(l...), pins, bottom, shown(got...))
		}
	}
	for _, at := range pins {
		if p := merge.Visible(l, at); !slices.Equal(p, visible(l, at)) {
			t.Fatalf("Visible(%s; %d) are %v", shown(l...), at, p)
		}
		if got := merge.Since(l, at); !slices.Equal(got, since(l, at)) {
			t.Fatalf("Since(%s; %d) are %s", shown(l...), at, shown(got...))
		}
	}
}

// All short lists of two keys, by all sets of pins about their numbers.
func TestMe2AllShort(t *testing.T) {
	all := sets(5)
	eachPair(4, 2, func(l []api.Entry) {
		for _, pins := range all {
			held(t, l, pins)
		}
	})
}

// many are lists that may be a block's.
func many() [][]api.Entry {
	var l [][]api.Entry
	for _, lists := range several() {
		l = append(l, lists...)
		l = append(l, merged(lists))
	}
	return append(l, run("k", 200, 1), plain(100), []api.Entry{gone("a", mostSeq), with("a", "x", mostSeq-1), gone("a", 2), with("a", "", 1)})
}

func TestMe2AsSaid(t *testing.T) {
	next := noise(7)
	for _, l := range many() {
		was := slices.Clone(l)
		for range 4 {
			pins := []int{mostSeq, 0, 1, math.MaxInt, mostSeq - 1}[:next(6)]
			for range next(5) {
				pins = append(pins, next(9))
			}
			held(t, l, pins)
		}
		held(t, l, []int{math.MinInt, 3, -1, 3, 200, math.MaxInt})
		if !slices.Equal(l, was) {
			t.Errorf("%s were changed", shown(was...))
		}
	}
}

// Of entries that may not be a block's there is nothing.
func TestMe2Refuses(t *testing.T) {
	for name, l := range refused() {
		for _, at := range []int{math.MinInt, 0, 1, 3, 4, 5, mostSeq, math.MaxInt} {
			if p := merge.Visible(l, at); len(p) != 0 {
				t.Errorf("%s: Visible as of %d has %d", name, at, len(p))
			}
			if got := merge.Since(l, at); len(got) != 0 {
				t.Errorf("%s: Since %d is %s", name, at, shown(got...))
			}
			for _, bottom := range []bool{false, true} {
				if got := merge.Prune(l, []int{at}, bottom); len(got) != 0 {
					t.Errorf("%s: Prune with %d, %t is %s", name, at, bottom, shown(got...))
				}
			}
		}
		if got := merge.Prune(l, nil, false); len(got) != 0 {
			t.Errorf("%s: Prune is %s", name, shown(got...))
		}
	}
	for _, l := range [][]api.Entry{nil, {}, plain(3)[:0]} {
		if p, s, k := merge.Visible(l, 9), merge.Since(l, 0), merge.Prune(l, []int{1}, true); len(p)+len(s)+len(k) != 0 {
			t.Errorf("of none there are %d, %d, %d", len(p), len(s), len(k))
		}
	}
}

// As many entries as may be, and as many pins, and more.
func TestMe2Most(t *testing.T) {
	var pins []int
	for i := range 300_000 {
		pins = append(pins, (i*7919)%300_000)
	}
	one, each := run("k", mostEntries, 1), plain(mostEntries)
	for _, bottom := range []bool{false, true} {
		if got := merge.Prune(one, pins, bottom); !slices.Equal(got, one) {
			t.Errorf("with all pins Prune is %s", shown(got...))
		}
		if got := merge.Prune(each, pins, bottom); !slices.Equal(got, each) {
			t.Errorf("of many keys, with all pins, Prune is %s", shown(got...))
		}
		if got := merge.Prune(one, []int{2000}, bottom); !slices.Equal(got, []api.Entry{one[0], one[mostEntries-2000]}) {
			t.Errorf("with the pin 2000 Prune is %s", shown(got...))
		}
	}
	if p := merge.Visible(one, 2000); !slices.Equal(p, []api.Pair{{Key: "k", Value: "2000"}}) {
		t.Errorf("Visible are %v", p)
	}
	if p := merge.Visible(each, 2000); len(p) != 2000 || p[1999] != (api.Pair{Key: each[1999].Key, Value: "1999"}) {
		t.Errorf("Visible are %d", len(p))
	}
	if l := merge.Since(each, 2000); !slices.Equal(l, each[2000:]) {
		t.Errorf("Since are %s", shown(l...))
	}
}

// What lies in the room behind a list's end is neither read nor changed, nor are pins; an answer's list is new.
func TestMe2RoomBehind(t *testing.T) {
	l := whole(story())
	was := slices.Clone(l[:len(l)+2])
	pins := []int{9, 3, 5, 3, 8}[:3]
	spoil := func(l []api.Entry) {
		l = l[:cap(l)]
		for i := range l {
			l[i] = with("q", "q", 1)
		}
	}
	for range 2 {
		held(t, l, pins)
		spoil(merge.Prune(l, pins, true))
		spoil(merge.Prune(l, pins, false))
		spoil(merge.Prune(l, []int{9, 5, 4, 2}, false)) // all of them
		spoil(merge.Since(l, 0))
		spoil(merge.Since(l[:1], 0))
	}
	if !slices.Equal(l[:len(l)+2], was) {
		t.Error("entries were changed, or what lies behind them")
	}
	if !slices.Equal(pins[:5], []int{9, 3, 5, 3, 8}) {
		t.Errorf("the pins were changed: %v", pins[:5])
	}
}

// asBefore tells what is wrong, if what Prune keeps does not show the same; that it does not ends the test.
func asBefore(t *testing.T, l []api.Entry, pins []int, bottom bool) {
	t.Helper()
	kept := merge.Prune(l, pins, bottom)
	if !right(kept) {
		t.Fatalf("Prune(%s; %v, %t) is %s, that may not be a block's", shown(l...), pins, bottom, shown(kept...))
	}
	for _, at := range append([]int{math.MaxInt, mostSeq}, pins...) {
		if p := merge.Visible(kept, at); !slices.Equal(p, visible(l, at)) {
			t.Fatalf("of Prune(%s; %v, %t) as of %d there is %v", shown(l...), pins, bottom, at, p)
		}
	}
	if again := merge.Prune(kept, pins, bottom); !slices.Equal(again, kept) {
		t.Fatalf("of Prune(%s; %v, %t) Prune is %s", shown(l...), pins, bottom, shown(again...))
	}
	if len(pins) == 0 {
		return
	}
	if got := merge.Since(kept, slices.Min(pins)); !slices.Equal(got, since(l, slices.Min(pins))) {
		t.Fatalf("of Prune(%s; %v, %t) since the least there is %s", shown(l...), pins, bottom, shown(got...))
	}
}

func TestMe3AllShort(t *testing.T) {
	all := sets(5)
	eachPair(4, 2, func(l []api.Entry) {
		for _, pins := range all {
			asBefore(t, l, pins, false)
			asBefore(t, l, pins, true)
		}
	})
}

func TestMe3AsBefore(t *testing.T) {
	for _, l := range many() {
		for _, pins := range [][]int{nil, {0}, {1}, {4}, {3, 1}, {2, 4, 6}, {5, 5, 0}, {-1, 3}, {mostSeq}, {mostSeq - 1, 1}, {math.MinInt, math.MaxInt}, {100, 50, 150}} {
			asBefore(t, l, pins, false)
			asBefore(t, l, pins, true)
		}
	}
}

// What is kept of upper lists, and put over those below, shows the same as all of them.
func TestMe3OverOthers(t *testing.T) {
	for name, lists := range several() {
		all := merged(lists)
		for cut := range 7 {
			var upper, lower []api.Entry
			for _, e := range all {
				if e.Seq > cut {
					upper = append(upper, e)
				} else {
					lower = append(lower, e)
				}
			}
			for _, pins := range [][]int{nil, {0}, {cut}, {cut + 1}, {1, 3}, {5, 2}} {
				l, err := merge.Merge([][]api.Entry{merge.Prune(upper, pins, false), merge.Prune(lower, pins, true)})
				if err != api.OK {
					t.Fatalf("%s: Merge is refused: %d", name, err)
				}
				for _, at := range append([]int{math.MaxInt}, pins...) {
					if p := merge.Visible(l, at); !slices.Equal(p, visible(all, at)) {
						t.Fatalf("%s: cut at %d, with %v, as of %d there is %v", name, cut, pins, at, p)
					}
				}
			}
		}
	}
}
