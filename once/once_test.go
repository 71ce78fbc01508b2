package once_test

import (
	"math"
	"reflect"
	"slices"
	"strings"
	"testing"

	"sorrel/api"
	"sorrel/once"
)

// The limits, as the chapters say them.
const (
	mostClient = 7
	mostSeq    = 1<<40 - 1
	mostErr    = 999
)

// did is what a client did last, with a reply that is empty.
func did(client, seq int) api.Seen {
	return api.Seen{Client: client, Seq: seq}
}

// told is what a client did last, with what it was answered.
func told(client, seq int, err api.Errno, has bool) api.Seen {
	return api.Seen{Client: client, Seq: seq, Reply: api.Reply{Err: err, Has: has}}
}

// noise are numbers below n, the same each time.
func noise(seed uint32) func(n int) int {
	return func(n int) int {
		seed = seed*1664525 + 1013904223
		return int(seed>>8) % n
	}
}

// single is what the chapter says of what a client did last that may be.
func single(x api.Seen) bool {
	if x.Client < 0 || x.Client > mostClient || x.Seq < 1 || x.Seq > mostSeq {
		return false
	}
	r := x.Reply
	return r.Value == "" && len(r.Pairs) == 0 && r.Upto == "" && 0 <= r.Err && r.Err <= mostErr
}

// right is what the chapter says of what clients did last that may be.
func right(l []api.Seen) bool {
	for i, x := range l {
		if !single(x) || i > 0 && l[i-1].Client >= x.Client {
			return false
		}
	}
	return true
}

// of is the place of a client in a list; -1: it is not there.
func of(l []api.Seen, client int) int {
	return slices.IndexFunc(l, func(x api.Seen) bool { return x.Client == client })
}

// check is what the chapter says of Check, word by word.
func check(l []api.Seen) api.Errno {
	if !right(l) {
		return api.ErrArg
	}
	return api.OK
}

// find is what the chapter says of Find, word by word.
func find(l []api.Seen, client, seq int) (api.Reply, api.Errno) {
	if !right(l) || client < 0 || client > mostClient || seq < 1 || seq > mostSeq {
		return api.Reply{}, api.ErrArg
	}
	i := of(l, client)
	if i < 0 || l[i].Seq < seq {
		return api.Reply{}, api.ErrNone
	}
	if l[i].Seq > seq {
		return api.Reply{}, api.ErrOld
	}
	return l[i].Reply, api.OK
}

// put is what the chapter says of Put, word by word.
func put(l []api.Seen, x api.Seen) ([]api.Seen, api.Errno) {
	if !right(l) || !single(x) {
		return nil, api.ErrArg
	}
	i := of(l, x.Client)
	if i >= 0 && l[i].Seq >= x.Seq {
		return nil, api.ErrOld
	}
	var with []api.Seen
	for _, y := range l {
		if y.Client != x.Client {
			with = append(with, y)
		}
	}
	with = append(with, x)
	slices.SortFunc(with, func(a, b api.Seen) int { return a.Client - b.Client })
	return with, api.OK
}

// join is what the chapter says of Join, word by word.
func join(a, b []api.Seen) ([]api.Seen, api.Errno) {
	if !right(a) || !right(b) {
		return nil, api.ErrArg
	}
	var both []api.Seen
	for client := 0; client <= mostClient; client++ {
		i, j := of(a, client), of(b, client)
		switch {
		case i >= 0 && (j < 0 || a[i].Seq >= b[j].Seq):
			both = append(both, a[i])
		case j >= 0:
			both = append(both, b[j])
		}
	}
	return both, api.OK
}

// bytesOf is what layer 1's chapter says of a number's bytes.
func bytesOf(n int) string {
	var b []byte
	for n >= 128 {
		b = append(b, byte(n%128+128))
		n /= 128
	}
	return string(append(b, byte(n)))
}

// write is what the chapter says of Write, word by word.
func write(x api.Seen) (api.Write, api.Errno) {
	if !single(x) {
		return api.Write{}, api.ErrArg
	}
	has := "\x00"
	if x.Reply.Has {
		has = "\x01"
	}
	key := "t" + "01234567"[x.Client:x.Client+1]
	return api.Write{Key: key, Value: bytesOf(x.Seq) + bytesOf(int(x.Reply.Err)) + has}, api.OK
}

// pair is a pair that what a client did last is written as.
func pair(x api.Seen) api.Pair {
	w, _ := write(x)
	return api.Pair{Key: w.Key, Value: w.Value}
}

// pairs are the pairs that what clients did last is written as.
func pairs(l []api.Seen) []api.Pair {
	var out []api.Pair
	for _, x := range l {
		out = append(out, pair(x))
	}
	return out
}

// same tells whether two lists are the same; nil and the empty list are.
func same(a, b []api.Seen) bool {
	return len(a) == len(b) && (len(a) == 0 || reflect.DeepEqual(a, b))
}

// singles are what a client did last: of each number, each limit and its neighbours, and replies of all kinds.
func singles() []api.Seen {
	var l []api.Seen
	for _, client := range []int{math.MinInt, -256, -48, -1, 0, 1, 6, 7, 8, 9, 10, 256, 1 << 32, math.MaxInt} {
		l = append(l, did(client, 1), told(client, 300, api.ErrUnlike, true))
	}
	for _, seq := range []int{math.MinInt, -1, 0, 1, 2, 127, 128, 1 << 32, mostSeq - 1, mostSeq, mostSeq + 1, 1 << 62, math.MaxInt} {
		l = append(l, did(0, seq), told(7, seq, 0, true))
	}
	for _, err := range []api.Errno{math.MinInt, -1, 0, 1, 2, 127, 128, 171, 998, 999, 1000, 1 << 32, math.MaxInt} {
		l = append(l, told(0, 1, err, false), told(7, mostSeq, err, true))
	}
	for _, r := range []api.Reply{
		{Value: "x"},
		{Value: "\x00", Has: true},
		{Upto: "x"},
		{Upto: "\x00", Has: true},
		{Pairs: []api.Pair{{}}},
		{Pairs: []api.Pair{{Key: "a", Value: "b"}}, Has: true},
	} {
		l = append(l, api.Seen{Client: 3, Seq: 5, Reply: r})
	}
	return l
}

// full is what all clients did last.
func full() []api.Seen {
	var l []api.Seen
	for client := 0; client <= mostClient; client++ {
		l = append(l, told(client, mostSeq-client, api.Errno(mostErr-client), client%2 == 1))
	}
	return l
}

// eachList tells all lists of up to so many out of some.
func eachList(some []api.Seen, most int, tell func([]api.Seen)) {
	var grow func(l []api.Seen)
	grow = func(l []api.Seen) {
		tell(slices.Clone(l))
		if len(l) == most {
			return
		}
		for _, x := range some {
			grow(append(slices.Clone(l), x))
		}
	}
	grow(nil)
}

// few are some that may be, and some that may not be.
func few() []api.Seen {
	return []api.Seen{
		did(0, 1), told(0, 2, 171, true), told(1, 2, 0, true), told(2, 1, 2, false), did(7, mostSeq),
		did(8, 1), did(1, 0), {Client: 3, Seq: 1, Reply: api.Reply{Value: "x"}},
	}
}

// lists are all short lists of a few, what each one single may be, and what all clients did.
func lists() [][]api.Seen {
	var all [][]api.Seen
	eachList(few(), 3, func(l []api.Seen) { all = append(all, l) })
	for _, x := range singles() {
		all = append(all, []api.Seen{x})
	}
	turned := full()
	slices.Reverse(turned)
	swapped := full()
	swapped[6], swapped[7] = swapped[7], swapped[6]
	return append(all, []api.Seen{}, full(), full()[1:], full()[:7], turned, swapped, append(full(), did(7, 1)), append(full(), did(8, 1)), append(full(), full()...))
}

func TestOn1CheckIsOfWhatMayBe(t *testing.T) {
	for _, c := range []struct {
		name string
		l    []api.Seen
		want api.Errno
	}{
		{"none", nil, api.OK},
		{"none, not nil", []api.Seen{}, api.OK},
		{"the first client", []api.Seen{did(0, 1)}, api.OK},
		{"the last client", []api.Seen{did(7, 1)}, api.OK},
		{"all clients", full(), api.OK},
		{"with a list of no pairs", []api.Seen{{Client: 1, Seq: 1, Reply: api.Reply{Pairs: []api.Pair{}}}}, api.OK},
		{"an Err of 999", []api.Seen{told(1, 1, 999, false)}, api.OK},
		{"the number MaxNumber", []api.Seen{did(1, api.MaxNumber)}, api.OK},
		{"a client below 0", []api.Seen{did(-1, 1)}, api.ErrArg},
		{"a client too many", []api.Seen{did(8, 1)}, api.ErrArg},
		{"a client too many behind all", append(full(), did(8, 1)), api.ErrArg},
		{"the number 0", []api.Seen{did(1, 0)}, api.ErrArg},
		{"a number below 0", []api.Seen{did(1, -1)}, api.ErrArg},
		{"a number above MaxNumber", []api.Seen{did(1, api.MaxNumber+1)}, api.ErrArg},
		{"an Err below 0", []api.Seen{told(1, 1, -1, false)}, api.ErrArg},
		{"an Err above 999", []api.Seen{told(1, 1, 1000, false)}, api.ErrArg},
		{"a value", []api.Seen{{Client: 1, Seq: 1, Reply: api.Reply{Value: "x"}}}, api.ErrArg},
		{"a pair", []api.Seen{{Client: 1, Seq: 1, Reply: api.Reply{Pairs: []api.Pair{{}}}}}, api.ErrArg},
		{"an Upto", []api.Seen{{Client: 1, Seq: 1, Reply: api.Reply{Upto: "x"}}}, api.ErrArg},
		{"a client twice", []api.Seen{did(1, 1), did(1, 2)}, api.ErrArg},
		{"the first client twice", []api.Seen{did(0, 1), did(0, 2)}, api.ErrArg},
		{"clients that fall", []api.Seen{did(2, 1), did(1, 2)}, api.ErrArg},
		{"the last ones fall", []api.Seen{did(0, 1), did(7, 1), did(6, 2)}, api.ErrArg},
	} {
		if err := once.Check(c.l); err != c.want {
			t.Errorf("Check of %s = %d; want %d", c.name, err, c.want)
		}
	}
}

func TestOn1CheckOfAllLists(t *testing.T) {
	for _, l := range lists() {
		if err, want := once.Check(l), check(l); err != want {
			t.Errorf("Check(%v) = %d; want %d", l, err, want)
		}
	}
}

func TestOn1FindIsTheReply(t *testing.T) {
	l := []api.Seen{told(0, 5, 0, true), told(3, 300, api.ErrUnlike, true), told(7, mostSeq, mostErr, false)}
	for _, c := range []struct {
		client, seq int
		want        api.Reply
		err         api.Errno
	}{
		{0, 5, api.Reply{Has: true}, api.OK},
		{3, 300, api.Reply{Err: api.ErrUnlike, Has: true}, api.OK},
		{7, mostSeq, api.Reply{Err: mostErr}, api.OK},
		{0, 6, api.Reply{}, api.ErrNone},
		{3, 301, api.Reply{}, api.ErrNone},
		{3, mostSeq, api.Reply{}, api.ErrNone},
		{1, 1, api.Reply{}, api.ErrNone},
		{6, mostSeq, api.Reply{}, api.ErrNone},
		{0, 4, api.Reply{}, api.ErrOld},
		{0, 1, api.Reply{}, api.ErrOld},
		{7, mostSeq - 1, api.Reply{}, api.ErrOld},
		{-1, 5, api.Reply{}, api.ErrArg},
		{8, 5, api.Reply{}, api.ErrArg},
		{math.MaxInt, 5, api.Reply{}, api.ErrArg},
		{math.MinInt, 5, api.Reply{}, api.ErrArg},
		{0, 0, api.Reply{}, api.ErrArg},
		{1, 0, api.Reply{}, api.ErrArg},
		{0, -1, api.Reply{}, api.ErrArg},
		{0, mostSeq + 1, api.Reply{}, api.ErrArg},
		{1, math.MaxInt, api.Reply{}, api.ErrArg},
	} {
		if r, err := once.Find(l, c.client, c.seq); !reflect.DeepEqual(r, c.want) || err != c.err {
			t.Errorf("Find of client %d, %d = %v, %d; want %v, %d", c.client, c.seq, r, err, c.want, c.err)
		}
	}
}

func TestOn1FindOfAllLists(t *testing.T) {
	for _, l := range lists() {
		for _, client := range []int{-1, 0, 1, 2, 3, 6, 7, 8} {
			for _, seq := range []int{-1, 0, 1, 2, 3, 5, 300, mostSeq - 7, mostSeq - 1, mostSeq, mostSeq + 1} {
				r, err := once.Find(l, client, seq)
				if want, e := find(l, client, seq); !reflect.DeepEqual(r, want) || err != e {
					t.Errorf("Find(%v, %d, %d) = %v, %d; want %v, %d", l, client, seq, r, err, want, e)
				}
			}
		}
	}
}

func TestOn1PutTakesAPlace(t *testing.T) {
	l := []api.Seen{told(2, 5, 0, true), did(4, 1)}
	for _, c := range []struct {
		name string
		x    api.Seen
		want []api.Seen
		err  api.Errno
	}{
		{"a client ahead of all", told(0, 9, 2, false), []api.Seen{told(0, 9, 2, false), l[0], l[1]}, api.OK},
		{"one in their midst", did(3, 1), []api.Seen{l[0], did(3, 1), l[1]}, api.OK},
		{"one behind all", did(7, mostSeq), []api.Seen{l[0], l[1], did(7, mostSeq)}, api.OK},
		{"one that is there", told(2, 6, 171, false), []api.Seen{told(2, 6, 171, false), l[1]}, api.OK},
		{"one that is there, by far", did(4, mostSeq), []api.Seen{l[0], did(4, mostSeq)}, api.OK},
		{"the same number", told(2, 5, 0, true), nil, api.ErrOld},
		{"the same number, told otherwise", did(2, 5), nil, api.ErrOld},
		{"a lesser number", did(2, 4), nil, api.ErrOld},
		{"the least number", did(2, 1), nil, api.ErrOld},
		{"no number", did(2, 0), nil, api.ErrArg},
		{"a number too great", did(2, mostSeq+1), nil, api.ErrArg},
		{"no client", did(8, 1), nil, api.ErrArg},
		{"a client below 0", did(-1, 1), nil, api.ErrArg},
		{"an old number with a value", api.Seen{Client: 2, Seq: 4, Reply: api.Reply{Value: "x"}}, nil, api.ErrArg},
	} {
		if with, err := once.Put(l, c.x); !same(with, c.want) || err != c.err {
			t.Errorf("Put of %s = %v, %d; want %v, %d", c.name, with, err, c.want, c.err)
		}
	}
}

func TestOn1PutOfAllLists(t *testing.T) {
	some := append(few(), did(0, 3), did(2, 2), did(7, 1))
	for _, l := range lists() {
		for _, x := range some {
			with, err := once.Put(l, x)
			if want, e := put(l, x); !same(with, want) || err != e {
				t.Errorf("Put(%v, %v) = %v, %d; want %v, %d", l, x, with, err, want, e)
			}
		}
	}
	for _, x := range singles() {
		for _, l := range [][]api.Seen{nil, {did(3, 5)}, full()} {
			with, err := once.Put(l, x)
			if want, e := put(l, x); !same(with, want) || err != e {
				t.Errorf("Put(%v, %v) = %v, %d; want %v, %d", l, x, with, err, want, e)
			}
		}
	}
}

func TestOn2JoinHasTheGreaterNumbers(t *testing.T) {
	a := []api.Seen{told(0, 5, 0, true), told(2, 9, 2, false), told(4, 7, 171, true)}
	b := []api.Seen{told(1, 1, 0, true), told(2, 10, 0, true), told(4, 7, 0, false), did(7, 3)}
	for _, c := range []struct {
		name       string
		a, b, want []api.Seen
		err        api.Errno
	}{
		{"none", nil, nil, nil, api.OK},
		{"a and none", a, nil, a, api.OK},
		{"none and b", nil, b, b, api.OK},
		{"a and a", a, a, a, api.OK},
		{"a and b", a, b, []api.Seen{a[0], b[0], b[1], a[2], b[3]}, api.OK},
		{"b and a", b, a, []api.Seen{a[0], b[0], b[1], b[2], b[3]}, api.OK},
		{"a that may not be", []api.Seen{did(8, 1)}, b, nil, api.ErrArg},
		{"b that may not be", a, []api.Seen{did(1, 0)}, nil, api.ErrArg},
		{"a that falls", []api.Seen{did(2, 1), did(1, 1)}, b, nil, api.ErrArg},
		{"b that falls", a, []api.Seen{did(1, 1), did(0, 1)}, nil, api.ErrArg},
	} {
		if both, err := once.Join(c.a, c.b); !same(both, c.want) || err != c.err {
			t.Errorf("Join of %s = %v, %d; want %v, %d", c.name, both, err, c.want, c.err)
		}
	}
}

func TestOn2JoinOfAllLists(t *testing.T) {
	var some [][]api.Seen
	eachList(few(), 2, func(l []api.Seen) { some = append(some, l) })
	some = append(some, full(), full()[2:], []api.Seen{did(0, 1), did(1, 1), did(2, 5)})
	for _, a := range some {
		for _, b := range some {
			both, err := once.Join(a, b)
			if want, e := join(a, b); !same(both, want) || err != e {
				t.Errorf("Join(%v, %v) = %v, %d; want %v, %d", a, b, both, err, want, e)
			}
		}
	}
}

func TestOn2WriteIsAKeyAndThreeNumbers(t *testing.T) {
	for _, c := range []struct {
		x          api.Seen
		key, value string
	}{
		{told(2, 5, 0, true), "t2", "\x05\x00\x01"},
		{did(0, 1), "t0", "\x01\x00\x00"},
		{told(1, 300, api.ErrUnlike, true), "t1", "\xac\x02\xab\x01\x01"},
		{told(7, mostSeq, mostErr, false), "t7", "\xff\xff\xff\xff\xff\x1f\xe7\x07\x00"},
	} {
		w, err := once.Write(c.x)
		if want := (api.Write{Key: c.key, Value: c.value}); w != want || err != api.OK {
			t.Errorf("Write(%v) = %q, %q, %d; want %q, %q", c.x, w.Key, w.Value, err, c.key, c.value)
		}
	}
	for _, x := range append(singles(), full()...) {
		w, err := once.Write(x)
		if want, e := write(x); w != want || err != e {
			t.Errorf("Write(%v) = %q, %q, %d; want %q, %q, %d", x, w.Key, w.Value, err, want.Key, want.Value, e)
		}
	}
}

func TestOn2OfIsWhatClientsDid(t *testing.T) {
	all := pairs(full())
	for _, c := range []struct {
		name string
		l    []api.Pair
		want []api.Seen
		err  api.Errno
	}{
		{"none", nil, nil, api.OK},
		{"none, not nil", []api.Pair{}, nil, api.OK},
		{"one", []api.Pair{{Key: "t2", Value: "\x05\x00\x01"}}, []api.Seen{told(2, 5, 0, true)}, api.OK},
		{"two", []api.Pair{{Key: "t0", Value: "\x01\x00\x00"}, {Key: "t1", Value: "\xac\x02\xab\x01\x01"}}, []api.Seen{did(0, 1), told(1, 300, 171, true)}, api.OK},
		{"all", all, full(), api.OK},
		{"one twice", []api.Pair{all[3], all[3]}, nil, api.ErrArg},
		{"the first one twice", []api.Pair{all[0], all[0]}, nil, api.ErrArg},
		{"two that fall", []api.Pair{all[4], all[3]}, nil, api.ErrArg},
		{"one too many", append(pairs(full()), api.Pair{Key: "t8", Value: "\x01\x00\x00"}), nil, api.ErrArg},
		{"all twice", append(pairs(full()), all...), nil, api.ErrArg},
		{"a bad one behind good ones", append(pairs(full()[:7]), api.Pair{Key: "t7", Value: "\x01\x00"}), nil, api.ErrArg},
	} {
		if l, err := once.Of(c.l); !same(l, c.want) || err != c.err {
			t.Errorf("Of %s = %v, %d; want %v, %d", c.name, l, err, c.want, c.err)
		}
	}
}

func TestOn2OfRefusesOtherKeys(t *testing.T) {
	keys := []string{"", "t", "u0", "m", "t00", "t0\x00", "\x00t0", "0t", "T0", "t-1", "t\xc2\xb2", strings.Repeat("t", 64)}
	for i := range 256 {
		for j := range 256 {
			keys = append(keys, string([]byte{byte(i), byte(j)}))
		}
	}
	for _, key := range keys {
		good := len(key) == 2 && key[0] == 't' && strings.Contains("01234567", key[1:])
		l, err := once.Of([]api.Pair{{Key: key, Value: "\x05\x00\x01"}})
		if !good && (l != nil || err != api.ErrArg) {
			t.Errorf("Of the key %q = %v, %d; want ErrArg", key, l, err)
		}
		if good && (err != api.OK || !same(l, []api.Seen{told(strings.Index("01234567", key[1:]), 5, 0, true)})) {
			t.Errorf("Of the key %q = %v, %d", key, l, err)
		}
	}
}

func TestOn2OfRefusesOtherValues(t *testing.T) {
	for _, c := range []struct{ name, value string }{
		{"nothing", ""},
		{"a number alone", "\x05"},
		{"two numbers", "\x05\x00"},
		{"four numbers", "\x05\x00\x01\x00"},
		{"what is neither true nor false", "\x05\x00\x02"},
		{"that in two bytes", "\x05\x00\x80\x01"},
		{"true in two bytes", "\x05\x00\x81\x00"},
		{"a number in too many bytes", "\x85\x00\x00\x01"},
		{"an Err in too many bytes", "\x05\x80\x00\x01"},
		{"the number 0", "\x00\x00\x01"},
		{"a number above MaxNumber", bytesOf(mostSeq+1) + "\x00\x01"},
		{"the number 2^62", bytesOf(1<<62) + "\x00\x01"},
		{"nine bytes of 128 or more", strings.Repeat("\xff", 9) + "\x00\x01"},
		{"an Err above 999", "\x05" + bytesOf(mostErr+1) + "\x01"},
		{"an Err of 2^62", "\x05" + bytesOf(1<<62) + "\x01"},
		{"a number cut off", "\x85"},
		{"an Err cut off", "\x05\x80"},
		{"the last one cut off", "\x05\x00\x80"},
		{"more behind", "\x05\x00\x01x"},
	} {
		if l, err := once.Of([]api.Pair{{Key: "t2", Value: c.value}}); l != nil || err != api.ErrArg {
			t.Errorf("Of a value of %s = %v, %d; want ErrArg", c.name, l, err)
		}
	}
}

func TestOn2OfOfAllShortValues(t *testing.T) {
	// All values of these bytes up to five that Write gives, and what it gives them of.
	written := map[string]int{}
	var each []api.Seen
	for seq := range 1 << 12 {
		for _, err := range []api.Errno{0, 1, 2, 127, 128, 255, 256, 257, 383, 511, 639, 767, 895, 999} {
			for _, has := range []bool{false, true} {
				if x := told(2, seq, err, has); single(x) {
					written[pair(x).Value] = len(each)
					each = append(each, x)
				}
			}
		}
	}
	alphabet := "\x00\x01\x02\x7f\x80\x81\xff"
	var grow func(s string)
	grow = func(s string) {
		l, err := once.Of([]api.Pair{{Key: "t2", Value: s}})
		if err == api.OK && (len(l) != 1 || !single(l[0]) || pair(l[0]).Value != s) {
			t.Errorf("Of the value %q = %v, which is written otherwise", s, l)
		}
		if i, ok := written[s]; ok && !same(l, each[i:i+1]) {
			t.Errorf("Of the value %q = %v, %d; want %v", s, l, err, each[i])
		}
		if err != api.OK && (l != nil || err != api.ErrArg) {
			t.Errorf("Of the value %q = %v, %d; want ErrArg", s, l, err)
		}
		if len(s) == 5 {
			return
		}
		for i := range len(alphabet) {
			grow(s + alphabet[i:i+1])
		}
	}
	grow("")
}

func TestOn3OfOfWritesIsWhatTheyWereOf(t *testing.T) {
	for _, l := range append(lists(), full(), []api.Seen{did(0, 1), told(7, mostSeq, mostErr, true)}) {
		if !right(l) {
			continue
		}
		var written []api.Pair
		for _, x := range l {
			w, err := once.Write(x)
			if err != api.OK || w.Gone {
				t.Errorf("Write(%v) = %q, %d", x, w.Value, err)
			}
			written = append(written, api.Pair{Key: w.Key, Value: w.Value})
		}
		if back, err := once.Of(written); !same(back, l) || err != api.OK {
			t.Errorf("Of the writes of %v = %v, %d", l, back, err)
		}
	}
}

// finds tells whether what a client did is found, and older numbers are old.
func finds(l []api.Seen, x api.Seen) bool {
	r, err := once.Find(l, x.Client, x.Seq)
	if !reflect.DeepEqual(r, x.Reply) || err != api.OK {
		return false
	}
	for seq := max(1, x.Seq-3); seq < x.Seq; seq++ {
		_, old := once.Find(l, x.Client, seq)
		if _, err := once.Put(l, api.Seen{Client: x.Client, Seq: seq}); old != api.ErrOld || err != api.ErrOld {
			return false
		}
	}
	_, err = once.Find(l, x.Client, x.Seq+1)
	return err == api.ErrNone || x.Seq == mostSeq
}

func TestOn3WhatIsPutIsFoundAlsoBehindAJoin(t *testing.T) {
	next := noise(14)
	for run := range 300 {
		// What was done last at two places, by clients whose numbers rise at each, and the greatest of both.
		var at [2][]api.Seen
		last := map[int]api.Seen{}
		for range 40 {
			place, client := next(2), next(8)
			x := told(client, last[client].Seq+1+next(3)*next(200), api.Errno(next(1000)), next(2) == 1)
			l, err := once.Put(at[place], x)
			if err != api.OK || !finds(l, x) {
				t.Fatalf("run %d: Put(%v, %v) = %v, %d", run, at[place], x, l, err)
			}
			at[place] = l
			last[client] = x
			if next(8) > 0 {
				continue
			}
			both, err := once.Join(at[place], at[1-place])
			if err != api.OK || len(both) != len(last) {
				t.Fatalf("run %d: Join(%v, %v) = %v, %d", run, at[place], at[1-place], both, err)
			}
			for _, x := range last {
				if !finds(both, x) {
					t.Fatalf("run %d: behind a join, %v has not %v", run, both, x)
				}
			}
			at[next(2)] = both
		}
	}
}

// roomy is a list with more in the room behind its end.
func roomy(l []api.Seen) ([]api.Seen, []api.Seen) {
	all := append(slices.Clone(l), did(-5, -5), did(5, 5))
	return all[:len(l)], all
}

func TestR3WhatIsHandedInStaysAndIsNotKept(t *testing.T) {
	a, wholeA := roomy([]api.Seen{did(1, 1), did(4, 4)})
	b, wholeB := roomy([]api.Seen{did(1, 2), did(6, 6)})
	beforeA, beforeB := slices.Clone(wholeA), slices.Clone(wholeB)
	lists := [][]api.Seen{}
	tell := func(l []api.Seen, err api.Errno) {
		if err != api.OK {
			t.Error(l, err)
		}
		lists = append(lists, l)
	}
	tell(once.Put(a, did(1, 9)))
	tell(once.Put(a, did(5, 1)))
	tell(once.Put(a, did(0, 1)))
	tell(once.Join(a, b))
	tell(once.Join(a, nil))
	tell(once.Join(nil, b))
	tell(once.Join(a, a))
	once.Check(a)
	once.Find(a, 1, 1)
	for _, l := range lists {
		l = append(l, did(7, 7))
		for i := range l {
			l[i] = did(-1, -1)
		}
	}
	if !same(wholeA, beforeA) || !same(wholeB, beforeB) {
		t.Error("what was handed in is another one:", wholeA, wholeB)
	}
}

func TestR3ListsOfNoPairsAreNotHandedOn(t *testing.T) {
	room := []api.Pair{{Key: "a"}, {Key: "b"}}
	x := api.Seen{Client: 2, Seq: 5, Reply: api.Reply{Has: true, Pairs: room[:0]}}
	if err := once.Check([]api.Seen{x}); err != api.OK {
		t.Error(err)
	}
	r, err := once.Find([]api.Seen{x}, 2, 5)
	if err != api.OK || !r.Has {
		t.Error(r, err)
	}
	replies := []api.Reply{r}
	tell := func(l []api.Seen, err api.Errno) {
		if err != api.OK || len(l) != 1 {
			t.Fatal(l, err)
		}
		replies = append(replies, l[0].Reply)
	}
	tell(once.Put(nil, x))
	tell(once.Join([]api.Seen{x}, nil))
	tell(once.Join(nil, []api.Seen{x}))
	tell(once.Join([]api.Seen{did(2, 4)}, []api.Seen{x}))
	for _, r := range replies {
		_ = append(r.Pairs, api.Pair{Key: "c"})
	}
	if room[0].Key != "a" {
		t.Error("the room behind a list's end is another one:", room)
	}
	if w, err := once.Write(x); w.Value != "\x05\x00\x01" || err != api.OK {
		t.Error(w, err)
	}
}
