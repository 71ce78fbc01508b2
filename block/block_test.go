package block_test

import (
	"encoding/binary"
	"hash/crc32"
	"math"
	"slices"
	"strconv"
	"strings"
	"testing"

	"sorrel/api"
	"sorrel/block"
)

// The limits, as the chapter says them.
const (
	mostKey     = 64
	mostValue   = 256
	mostEntries = 1 << 12
	mostSeq     = 1<<40 - 1
)

var castagnoli = crc32.MakeTable(crc32.Castagnoli)

// of is so many bytes of one kind.
func of(b string, n int) string {
	return strings.Repeat(b, n)
}

// sealed is bytes with their sum behind, by another build of it.
func sealed(s string) string {
	return string(binary.LittleEndian.AppendUint32([]byte(s), crc32.Checksum([]byte(s), castagnoli)))
}

// number is a number's bytes, by another build of them.
func number(n int) string {
	return string(binary.AppendUvarint(nil, uint64(n)))
}

// text is a text with its length's bytes ahead.
func text(s string) string {
	return number(len(s)) + s
}

// with is an entry that has a value.
func with(key, value string, seq int) api.Entry {
	return api.Entry{Key: key, Value: value, Seq: seq}
}

// gone is an entry that has none.
func gone(key string, seq int) api.Entry {
	return api.Entry{Key: key, Gone: true, Seq: seq}
}

// keyAhead tells whether a stands ahead of b, byte by byte, as layer 4 says.
func keyAhead(a, b string) bool {
	for i := 0; i < len(a) && i < len(b); i++ {
		if a[i] != b[i] {
			return a[i] < b[i]
		}
	}
	return len(a) < len(b)
}

// stands is what the chapter says of an entry that stands ahead of another one, word by word.
func stands(a, b api.Entry) bool {
	return keyAhead(a.Key, b.Key) || a.Key == b.Key && a.Seq > b.Seq
}

// single is what the chapter says of an entry that may be, word by word.
func single(e api.Entry) bool {
	if len(e.Key) < 1 || len(e.Key) > mostKey || len(e.Value) > mostValue {
		return false
	}
	if e.Gone && len(e.Value) > 0 {
		return false
	}
	return 1 <= e.Seq && e.Seq <= mostSeq
}

// right is what the chapter says of entries that may be a block's, word by word.
func right(l []api.Entry) bool {
	if len(l) > mostEntries {
		return false
	}
	for i, e := range l {
		if !single(e) || i+1 < len(l) && !stands(e, l[i+1]) {
			return false
		}
	}
	return true
}

// written is what the chapter says of a block's bytes, word by word.
func written(l []api.Entry) string {
	var b strings.Builder
	b.WriteString(number(len(l)))
	for i, e := range l {
		ahead, same := "", 0
		if i > 0 {
			ahead = l[i-1].Key
		}
		for same < len(e.Key) && strings.HasPrefix(ahead, e.Key[:same+1]) {
			same++
		}
		b.WriteString(number(same) + text(e.Key[same:]))
		if e.Gone {
			b.WriteString(number(2*e.Seq + 1))
		} else {
			b.WriteString(number(2*e.Seq) + text(e.Value))
		}
	}
	return sealed(b.String())
}

// found is what the chapter says of Find, word by word.
func found(l []api.Entry, key string, at int) (api.Entry, bool) {
	if !right(l) {
		return api.Entry{}, false
	}
	for _, e := range l {
		if e.Key == key && e.Seq <= at {
			return e, true
		}
	}
	return api.Entry{}, false
}

// shown are entries as a test tells them: the first few, without most of what is long.
func shown(l ...api.Entry) string {
	cut := func(s string) string { return strconv.Quote(s[:min(len(s), 12)]) }
	s := strconv.Itoa(len(l)) + " entries"
	for _, e := range l[:min(len(l), 4)] {
		s += ", " + cut(e.Key) + " " + strconv.Itoa(e.Seq)
		if e.Gone {
			s += " gone"
		}
		s += " " + cut(e.Value)
	}
	return s
}

// noise are numbers below n, the same each time.
func noise(seed uint32) func(n int) int {
	return func(n int) int {
		seed = seed*1664525 + 1013904223
		return int(seed>>8) % n
	}
}

// mixed are rising keys' entries: of each so many, some with values, some without.
func mixed(keys []string, each int) []api.Entry {
	next := noise(uint32(len(keys) + each))
	var l []api.Entry
	for _, key := range keys {
		for i := range each {
			e := with(key, of(string(rune('0'+i%10)), next(5)*next(40)), (each-i)*3+next(3)-1)
			if next(3) == 0 {
				e = gone(key, e.Seq)
			}
			l = append(l, e)
		}
	}
	return l
}

// named are keys with numbers behind, so many, rising.
func named(n int) []string {
	var keys []string
	for i := range n {
		keys = append(keys, "key"+strconv.Itoa(1_000_000+i*7))
	}
	return keys
}

// edges are keys of bytes of all kinds, of beginnings of others, of lengths at the limit.
func edges() []string {
	l := []string{"\x00", "\x00\x00", "\n", "#", "a", "a\x00", "a\xff", "aa", "ab", "abc", "abd", "ac", "b", "\x7f", "\x80", "\xff", "\xff\xff", "\u00e9"}
	for _, b := range []string{"\x00", "a", "\xff"} {
		l = append(l, of(b, 63), of(b, 64), of(b, 63)+"b", of(b, 32)+of("b", 32))
	}
	slices.Sort(l)
	return slices.Compact(l)
}

// lists are entries that may be a block's.
func lists() [][]api.Entry {
	l := [][]api.Entry{
		{},
		{with("a", "", 1)},
		{gone("a", 1)},
		{with("a", "x", mostSeq)},
		{gone("a", mostSeq)},
		{with("a", of("v", mostValue), mostSeq)},
		{with(of("\xff", mostKey), of("\xff", mostValue), mostSeq)},
		{with("a", "x", 9), gone("a", 4), with("a", "y", 2)},
		{with("apple", "1", 9), gone("apple", 4), with("apply", "22", 5), with("b", "", 1)},
		{gone("a", mostSeq), with("a", "x", mostSeq-1), gone("a", 2), with("a", "", 1)},
		{with("a", "", 1), with("aa", "", 1), with("aaa", "", 1), with("b", "", 1), with("ba", "", 1)},
		{with("abc", "1", 5), with("abd", "2", 6), with("b", "3", 7), with("bcd", "4", 1), with("c", "5", 2)},
		{with("\x00", "\x00", 63), with("\x00\x00", "\x00\x00", 64), gone("\x00\x00", 63), gone("\x80", 64), with("\xff", "\xff", 127)},
		{with(of("a", 63), "1", 1), with(of("a", 64), "2", 1), with(of("a", 63)+"b", "3", 1)},
		mixed(edges(), 1), mixed(edges(), 3), mixed(named(16), 1), mixed(named(17), 2), mixed(named(300), 5),
		mixed(named(127), 1), mixed(named(128), 1), mixed(named(1), 200),
	}
	for _, n := range []int{1, 126, 127, 128, 129, 255, 256} {
		l = append(l, []api.Entry{with("k", of("v", n), n), with("l", of("\x00", n), 1<<(n%40))})
	}
	return l
}

// full are so many entries, each as it may be.
func full(n int) []api.Entry {
	var l []api.Entry
	for _, key := range named(n) {
		l = append(l, with(key, "", 1))
	}
	return l
}

// wrongs are entries that may not be.
func wrongs() map[string]api.Entry {
	return map[string]api.Entry{
		"without a key":               with("", "x", 5),
		"gone, without a key":         gone("", 5),
		"zero":                        {},
		"with a key of 65 bytes":      with(of("k", 65), "x", 5),
		"gone, of 65 bytes":           gone(of("k", 65), 5),
		"with a key of 1000 bytes":    with(of("k", 1000), "x", 5),
		"with a value of 257 bytes":   with("k", of("v", 257), 5),
		"with a value of 10000 bytes": with("k", of("v", 10000), 5),
		"gone, with a value":          {Key: "k", Value: "x", Gone: true, Seq: 5},
		"gone, with the byte 0":       {Key: "k", Value: "\x00", Gone: true, Seq: 5},
		"gone, with 257 bytes":        {Key: "k", Value: of("v", 257), Gone: true, Seq: 5},
		"of the number 0":             with("k", "x", 0),
		"gone, of the number 0":       gone("k", 0),
		"of the number -1":            with("k", "x", -1),
		"of the least number":         with("k", "x", math.MinInt),
		"of the number 2^40":          with("k", "x", 1<<40),
		"gone, of the number 2^40":    gone("k", 1<<40),
		"of the number 2^62":          with("k", "x", 1<<62),
		"of the greatest number":      with("k", "x", math.MaxInt),
		"gone, of the greatest":       gone("k", math.MaxInt),
	}
}

// disordered are entries each of which may be, but that do not stand as they must.
func disordered() map[string][]api.Entry {
	return map[string][]api.Entry{
		"keys that fall":             {with("b", "", 1), with("a", "", 1)},
		"keys that fall, of numbers": {with("b", "", 1), with("a", "", 9)},
		"a beginning behind":         {with("ab", "", 1), with("a", "", 1)},
		"a beginning with 0 ahead":   {with("a\x00", "", 1), with("a", "", 1)},
		"bytes above 127 ahead":      {with("\x80", "", 1), with("\x7f", "", 1)},
		"numbers that rise":          {with("a", "", 4), with("a", "", 5)},
		"numbers that rise, gone":    {gone("a", 4), with("a", "", 5)},
		"one twice":                  {with("a", "x", 4), with("a", "x", 4)},
		"one number with two values": {with("a", "x", 4), with("a", "y", 4)},
		"one number, gone ahead":     {gone("a", 4), with("a", "y", 4)},
		"one number, gone behind":    {with("a", "y", 4), gone("a", 4)},
		"the last one wrong":         {with("a", "", 3), with("b", "", 2), with("c", "", 1), with("bz", "", 1)},
		"the first one wrong":        {with("b", "", 3), with("a", "", 2), with("c", "", 1), with("d", "", 1)},
		"the greatest ahead":         {with("b", "", mostSeq), with("a", "", mostSeq)},
	}
}

// refused are lists of entries that may not be a block's, by what is wrong.
func refused() map[string][]api.Entry {
	m := disordered()
	for name, e := range wrongs() {
		m["alone: "+name] = []api.Entry{e}
		m["first: "+name] = []api.Entry{e, with("z", "", 1)}
		m["last: "+name] = []api.Entry{with("a", "", 1), with("b", "", 1), e}
		m["midst: "+name] = []api.Entry{with("a", "", 1), e, with("z", "", 1)}
	}
	m["4097"] = full(mostEntries + 1)
	m["4097 and the last one twice"] = append(full(mostEntries), full(mostEntries)[mostEntries-1])
	m["8192"] = full(2 * mostEntries)
	return m
}

func TestBk1LessNamed(t *testing.T) {
	for _, c := range []struct {
		a, b api.Entry
		want bool
	}{
		{with("a", "", 1), with("b", "", 1), true},
		{with("b", "", 1), with("a", "", 1), false},
		{with("a", "", 1), with("b", "", 9), true},
		{with("b", "", 9), with("a", "", 1), false},
		{with("a", "", 9), with("a", "", 4), true},
		{with("a", "", 4), with("a", "", 9), false},
		{with("a", "", 4), with("a", "", 4), false},
		{with("a", "x", 4), with("a", "y", 4), false},
		{with("a", "y", 4), with("a", "x", 4), false},
		{gone("a", 4), with("a", "x", 4), false},
		{with("a", "x", 4), gone("a", 4), false},
		{gone("a", 5), with("a", "x", 4), true},
		{with("a", "", 1), with("a\x00", "", 1), true},
		{with("ab", "", 1), with("b", "", 1), true},
		{with("\x7f", "", 1), with("\x80", "", 1), true},
		{with("a", "", math.MaxInt), with("a", "", math.MinInt), true},
		{with("a", "", math.MinInt), with("a", "", math.MaxInt), false},
		{with("a", "", 0), with("a", "", -1), true},
		{api.Entry{}, with("a", "", 1), true},
		{api.Entry{}, api.Entry{}, false},
		{with(of("a", 64), "", 1), with(of("a", 65), "", 1), true},
		{with(of("a", 1000)+"b", "", 1), with(of("a", 1000)+"a", "", 1), false},
	} {
		if got := block.Less(c.a, c.b); got != c.want {
			t.Errorf("Less(%.9q %d, %.9q %d) is %t", c.a.Key, c.a.Seq, c.b.Key, c.b.Seq, got)
		}
	}
}

func TestBk1LessAsSaid(t *testing.T) {
	var all []api.Entry
	for _, key := range append(edges(), "", of("a", 65), of("a", 200)) {
		for _, seq := range []int{math.MinInt, -1, 0, 1, 2, mostSeq, mostSeq + 1, math.MaxInt} {
			all = append(all, with(key, "x", seq), gone(key, seq))
		}
	}
	for _, a := range all {
		for _, b := range all {
			if got := block.Less(a, b); got != stands(a, b) {
				t.Fatalf("Less(%.9q %d, %.9q %d) is %t", a.Key, a.Seq, b.Key, b.Seq, got)
			}
		}
	}
}

func TestBk1CheckRight(t *testing.T) {
	for _, l := range append(lists(), nil, full(mostEntries-1), full(mostEntries), full(mostEntries + 1)[:mostEntries]) {
		if !right(l) {
			t.Fatalf("the test's own %d entries may not be", len(l))
		}
		if err := block.Check(l); err != api.OK {
			t.Errorf("Check(%s) is %d", shown(l...), err)
		}
	}
}

func TestBk1CheckEachLength(t *testing.T) {
	for n := range 400 {
		for _, e := range []api.Entry{with(of("k", n), "x", 1), gone(of("k", n), 1), with("k", of("v", n), 1), {Key: "k", Value: of("v", n), Gone: true, Seq: 1}, with("k", "", n), with("k", "", -n)} {
			want := api.OK
			if !single(e) {
				want = api.ErrArg
			}
			if err := block.Check([]api.Entry{e}); err != want {
				t.Errorf("Check(a key of %d, a value of %d bytes, %t, %d) is %d", len(e.Key), len(e.Value), e.Gone, e.Seq, err)
			}
		}
	}
}

func TestBk1Refused(t *testing.T) {
	for name, l := range refused() {
		if right(l) {
			t.Fatalf("%s: the test's own entries may be", name)
		}
		if err := block.Check(l); err != api.ErrArg {
			t.Errorf("%s: Check is %d", name, err)
		}
		if s, err := block.Put(l); s != "" || err != api.ErrArg {
			t.Errorf("%s: Put is %.60q, %d", name, s, err)
		}
	}
}

func TestBk1PutNamed(t *testing.T) {
	for _, c := range []struct {
		l    []api.Entry
		want string
	}{
		{nil, "\x00\x51\x53\x7d\x52"},
		{[]api.Entry{}, "\x00\x51\x53\x7d\x52"},
		{[]api.Entry{with("a", "", 1)}, sealed("\x01" + "\x00\x01a\x02\x00")},
		{[]api.Entry{gone("a", 1)}, sealed("\x01" + "\x00\x01a\x03")},
		{[]api.Entry{with("a", "xy", 63)}, sealed("\x01" + "\x00\x01a\x7e\x02xy")},
		{[]api.Entry{gone("a", 63)}, sealed("\x01" + "\x00\x01a\x7f")},
		{[]api.Entry{with("a", "xy", 64)}, sealed("\x01" + "\x00\x01a\x80\x01\x02xy")},
		{[]api.Entry{gone("a", mostSeq)}, sealed("\x01" + "\x00\x01a\xff\xff\xff\xff\xff\x3f")},
		{[]api.Entry{with("a", "", mostSeq)}, sealed("\x01" + "\x00\x01a\xfe\xff\xff\xff\xff\x3f\x00")},
		{[]api.Entry{with("a", "x", 9), gone("a", 4), with("a", "y", 2)}, sealed("\x03" + "\x00\x01a\x12\x01x" + "\x01\x00\x09" + "\x01\x00\x04\x01y")},
		{[]api.Entry{with("ab", "", 1), with("abc", "", 1), with("ac", "", 1), with("b", "", 1)},
			sealed("\x04" + "\x00\x02ab\x02\x00" + "\x02\x01c\x02\x00" + "\x01\x01c\x02\x00" + "\x00\x01b\x02\x00")},
		{[]api.Entry{with(of("k", 64), of("v", 256), 1), gone(of("k", 63)+"l", 1)},
			sealed("\x02" + "\x00\x40" + of("k", 64) + "\x02\x80\x02" + of("v", 256) + "\x3f\x01l\x03")},
	} {
		if s, err := block.Put(c.l); s != c.want || err != api.OK {
			t.Errorf("Put(%s) is %q, %d, not %q", shown(c.l...), s, err, c.want)
		}
		if l, err := block.Take(c.want); !slices.Equal(l, c.l) || err != api.OK {
			t.Errorf("Take(%q) is %s, %d", c.want, shown(l...), err)
		}
	}
}

func TestBk1PutAsSaid(t *testing.T) {
	for _, l := range append(lists(), full(mostEntries)) {
		was := slices.Clone(l)
		if s, err := block.Put(l); s != written(l) || err != api.OK {
			t.Errorf("Put(%s) is %.60q, %d", shown(l...), s, err)
		}
		if !slices.Equal(l, was) {
			t.Errorf("Put changed the %d entries", len(l))
		}
	}
}

// notBlocks are bytes, ahead of a seal that is right, that are no block's, by what is wrong.
func notBlocks() map[string]string {
	one := "\x00\x01a\x02\x00"
	return map[string]string{
		"nothing":                         "",
		"fewer entries than said":         "\x01",
		"one of two":                      "\x02" + one,
		"more entries than said":          "\x00" + one,
		"two of one":                      "\x01" + one + "\x00\x01b\x02\x00",
		"a byte behind none":              "\x00\x00",
		"a byte behind one":               "\x01" + one + "\x00",
		"a seal behind":                   sealed("\x00"),
		"how many, in two bytes":          "\x81\x00" + one,
		"none, in two bytes":              "\x80\x00",
		"how many, without an end":        "\x81",
		"how many, in nine bytes":         of("\x80", 9) + one,
		"how many, above 2^62":            of("\xff", 8) + "\x7f" + one,
		"how many, 2^62":                  of("\x80", 8) + "\x40" + one,
		"alike with none ahead":           "\x01" + "\x01\x01a\x02\x00",
		"alike with none ahead, all":      "\x01" + "\x01\x00\x02\x00",
		"alike more than the key ahead":   "\x02" + one + "\x02\x01b\x02\x00",
		"alike 2^62 bytes":                "\x02" + one + of("\x80", 8) + "\x40" + "\x01b\x02\x00",
		"alike, in two bytes":             "\x01" + "\x80\x00\x01a\x02\x00",
		"alike, without an end":           "\x02" + one + "\x80",
		"alike fewer bytes than are":      "\x02" + "\x00\x02ab\x02\x00" + "\x01\x02bc\x02\x00",
		"alike no bytes, though some are": "\x02" + "\x00\x02ab\x02\x00" + "\x00\x02ac\x02\x00",
		"alike fewer, the same key":       "\x02" + "\x00\x01a\x04\x00" + "\x00\x01a\x02\x00",
		"no rest":                         "\x01" + "\x00",
		"the rest too short":              "\x01" + "\x00\x02a",
		"the rest's length in two bytes":  "\x01" + "\x00\x81\x00a\x02\x00",
		"the rest's length too great":     "\x01" + "\x00" + number(1<<18+1) + of("a", 1<<18+1) + "\x02\x00",
		"no number":                       "\x01" + "\x00\x01a",
		"the number without an end":       "\x01" + "\x00\x01a\x82",
		"the number in two bytes":         "\x01" + "\x00\x01a\x82\x00\x00",
		"the number 0":                    "\x01" + "\x00\x01a\x00\x00",
		"gone, the number 0":              "\x01" + "\x00\x01a\x01",
		"the number 2^40":                 "\x01" + "\x00\x01a" + number(1<<41) + "\x00",
		"gone, the number 2^40":           "\x01" + "\x00\x01a" + number(1<<41+1),
		"the number 2^61":                 "\x01" + "\x00\x01a" + number(1<<62) + "\x00",
		"the number above 2^62":           "\x01" + "\x00\x01a" + number(1<<62+1),
		"no value":                        "\x01" + "\x00\x01a\x02",
		"the value too short":             "\x01" + "\x00\x01a\x02\x02v",
		"the value's length in two bytes": "\x01" + "\x00\x01a\x02\x80\x00",
		"the value's length too great":    "\x01" + "\x00\x01a\x02" + number(1<<18+1) + of("v", 1<<18+1),
		"a value of 257 bytes":            "\x01" + "\x00\x01a\x02" + number(257) + of("v", 257),
		"gone, with a value":              "\x01" + "\x00\x01a\x03\x01v",
		"gone, with an empty value":       "\x01" + "\x00\x01a\x03\x00",
		"no key":                          "\x01" + "\x00\x00\x02\x00",
		"a key of 65 bytes":               "\x01" + "\x00\x41" + of("k", 65) + "\x02\x00",
		"a key of 65 bytes, in two":       "\x02" + "\x00\x40" + of("k", 64) + "\x02\x00" + "\x40\x01k\x02\x00",
		"a key that falls":                "\x02" + "\x00\x01b\x02\x00" + "\x00\x01a\x02\x00",
		"a beginning behind":              "\x02" + "\x00\x02ab\x02\x00" + "\x01\x00\x02\x00",
		"one number twice":                "\x02" + "\x00\x01a\x02\x00" + "\x01\x00\x02\x00",
		"one number, gone":                "\x02" + "\x00\x01a\x02\x00" + "\x01\x00\x03",
		"numbers that rise":               "\x02" + "\x00\x01a\x02\x00" + "\x01\x00\x04\x00",
		"an ordinary text":                "123456789",
		"newlines":                        "\n\n\n\n",
		"bytes of 255":                    of("\xff", 100),
	}
}

func TestBk1TakeRefuses(t *testing.T) {
	for name, s := range notBlocks() {
		if l, err := block.Take(sealed(s)); len(l) != 0 || err != api.ErrBlock {
			t.Errorf("%s: Take(%.60q) is %s, %d", name, s, shown(l...), err)
		}
		if l, err := block.Take(s); s != sealed("\x00") && (len(l) != 0 || err != api.ErrBlock) {
			t.Errorf("%s: Take(%.60q), without its seal, is %s, %d", name, s, shown(l...), err)
		}
	}
}

// Of entries that may not be a block's the bytes, written all the same, are no block's.
func TestBk1TakeRefusesWhatPutDoes(t *testing.T) {
	for name, l := range refused() {
		if slices.ContainsFunc(l, func(e api.Entry) bool { return e.Seq < 0 || e.Seq >= 1<<61 || e.Gone && e.Value != "" }) {
			continue // there is no way to write these
		}
		if got, err := block.Take(written(l)); len(got) != 0 || err != api.ErrBlock {
			t.Errorf("%s: Take is %s, %d", name, shown(got...), err)
		}
	}
}

func TestBk1TakeWithoutSeal(t *testing.T) {
	for _, s := range []string{"", "\x00", "\x00\x00\x00\x00", "\x00\x00\x00\x00\x00", "\x00\x52\x7d\x53\x51", "\x00\xae\xac\x82\xad", "\x00\x51\x53\x7d", "\x51\x53\x7d\x52", "\x00\x51\x53\x7d\x52\x00", "\x00\x00\x51\x53\x7d\x52", "\x00\x51\x53\x7d\x53"} {
		if l, err := block.Take(s); len(l) != 0 || err != api.ErrBlock {
			t.Errorf("Take(%q) is %s, %d", s, shown(l...), err)
		}
	}
}

// eachText tells all texts of up to so many bytes out of an alphabet.
func eachText(alphabet string, most int, tell func(string)) {
	tell("")
	if most == 0 {
		return
	}
	for i := range len(alphabet) {
		eachText(alphabet, most-1, func(s string) { tell(alphabet[i:i+1] + s) })
	}
}

// few are the bytes that short texts are made of: as numbers those of a key that goes on, of lengths, of 1, 2, 48.
const few = "\x00\x01\x02\x03\x04a"

// oneMore are lists of entries that may be a block's, with one more that short texts may have, by their bytes.
func oneMore(l ...api.Entry) map[string][]api.Entry {
	m := map[string][]api.Entry{written(l): l}
	add := func(e api.Entry) {
		if longer := append(slices.Clone(l), e); right(longer) {
			m[written(longer)] = longer
		}
	}
	for _, begin := range []string{"", "a", "aa"} {
		eachText(few, 3, func(rest string) {
			for _, seq := range []int{1, 2, 48} {
				add(gone(begin+rest, seq))
				eachText(few, 2, func(value string) { add(with(begin+rest, value, seq)) })
			}
		})
	}
	return m
}

// Of all short texts, sealed, just those are a block's that some entries are written as.
func TestBk1TakeOfAllShort(t *testing.T) {
	for _, c := range []struct {
		head string
		l    []api.Entry
		rest int
	}{
		{"", nil, 7},
		{"\x02\x00\x01a\x04\x00", []api.Entry{with("a", "", 2)}, 6},
		{"\x02\x00\x02aa\x05", []api.Entry{gone("aa", 2)}, 6},
	} {
		all, blocks := oneMore(c.l...), 0
		eachText(few, c.rest, func(rest string) {
			s := sealed(c.head + rest)
			l, err := block.Take(s)
			want, there := all[s]
			if there && (err != api.OK || !slices.Equal(l, want)) {
				t.Fatalf("Take(%q) is %s, %d", s, shown(l...), err)
			}
			if !there && (err != api.ErrBlock || len(l) != 0) {
				t.Fatalf("Take(%q), that are no block's, is %s, %d", s, shown(l...), err)
			}
			if there {
				blocks++
			}
		})
		if blocks < 100 {
			t.Errorf("behind %q only %d texts are a block's", c.head, blocks)
		}
	}
}

// What lies behind a piece's end is not read.
func TestBk1TakeOfPieces(t *testing.T) {
	whole := written([]api.Entry{with("a", "x", 9), gone("a", 4), with("ab", "y", 2)}) + written(nil) + written([]api.Entry{gone("b", 1)})
	blocks := 0
	for i := range whole {
		for j := i; j <= len(whole); j++ {
			got, err := block.Take(whole[i:j])
			if err == api.OK {
				blocks++
				if written(got) != whole[i:j] {
					t.Errorf("Take([%d:%d]) is %s", i, j, shown(got...))
				}
			}
		}
	}
	if blocks != 3 {
		t.Errorf("%d pieces are blocks", blocks)
	}
}

// Lists that are answered share nothing: one that is changed leaves the next one as it is.
func TestBk1ListsAreNew(t *testing.T) {
	want := []api.Entry{with("a", "x", 9), gone("b", 4)}
	s := written(want)
	first, _ := block.Take(s)
	first[0], first[1] = with("q", "q", 1), with("r", "r", 1)
	if l, err := block.Take(s); !slices.Equal(l, want) || err != api.OK {
		t.Errorf("Take is %s, %d", shown(l...), err)
	}
}

func TestBk2FindNamed(t *testing.T) {
	l := []api.Entry{with("a", "x", 9), gone("a", 4), with("a", "y", 2), with("b", "", 7), gone("c", 1)}
	for _, c := range []struct {
		key  string
		at   int
		want int // its place; -1: none
	}{
		{"a", math.MaxInt, 0}, {"a", 10, 0}, {"a", 9, 0}, {"a", 8, 1}, {"a", 5, 1}, {"a", 4, 1}, {"a", 3, 2}, {"a", 2, 2},
		{"a", 1, -1}, {"a", 0, -1}, {"a", -1, -1}, {"a", math.MinInt, -1},
		{"b", 7, 3}, {"b", 8, 3}, {"b", 6, -1}, {"c", 1, 4}, {"c", mostSeq, 4}, {"c", 0, -1},
		{"", 9, -1}, {"A", 9, -1}, {"a\x00", 9, -1}, {"aa", 9, -1}, {"ba", 9, -1}, {"d", 9, -1}, {"\xff", 9, -1}, {of("a", 65), 9, -1},
	} {
		want, there := api.Entry{}, c.want >= 0
		if there {
			want = l[c.want]
		}
		if e, ok := block.Find(l, c.key, c.at); e != want || ok != there {
			t.Errorf("Find(%.9q, %d) is %s, %t", c.key, c.at, shown(e), ok)
		}
	}
}

func TestBk2FindAsSaid(t *testing.T) {
	for _, l := range append(lists(), mixed([]string{"a", "b", "c"}, 40)) {
		keys := append(edges(), "", "key1000000", "key1000007", "key1000003", of("a", 65), "k", "l")
		was := slices.Clone(l)
		for _, key := range keys {
			for _, at := range []int{math.MinInt, -1, 0, 1, 2, 3, 4, 5, 6, 7, 8, 9, 10, 20, 60, 119, 120, 121, mostSeq - 1, mostSeq, mostSeq + 1, math.MaxInt} {
				want, there := found(l, key, at)
				if e, ok := block.Find(l, key, at); e != want || ok != there {
					t.Fatalf("Find(%s; %.9q, %d) is %s, %t", shown(l...), key, at, shown(e), ok)
				}
			}
		}
		if !slices.Equal(l, was) {
			t.Errorf("Find changed the %d entries", len(l))
		}
	}
}

// Each entry is found by its own number, and by all up to the one ahead.
func TestBk2FindEach(t *testing.T) {
	for _, l := range lists() {
		for i, e := range l {
			upto := mostSeq
			if i > 0 && l[i-1].Key == e.Key {
				upto = l[i-1].Seq - 1
			}
			for _, at := range []int{e.Seq, upto} {
				if got, ok := block.Find(l, e.Key, at); got != e || !ok {
					t.Fatalf("Find(%s; %.9q, %d) is %s, %t", shown(l...), e.Key, at, shown(got), ok)
				}
			}
			if got, ok := block.Find(l, e.Key, e.Seq-1); got == e || ok && got.Seq >= e.Seq {
				t.Fatalf("Find(%s; %.9q, %d) is %s, %t", shown(l...), e.Key, e.Seq-1, shown(got), ok)
			}
		}
	}
}

// Among entries that may not be nothing is found, wherever the wrong one stands.
func TestBk2FindAmongWrong(t *testing.T) {
	for name, l := range refused() {
		for _, e := range append(slices.Clone(l[:min(20, len(l))]), l[len(l)-1]) {
			for _, at := range []int{e.Seq, mostSeq, math.MaxInt} {
				if got, ok := block.Find(l, e.Key, at); got != (api.Entry{}) || ok {
					t.Errorf("%s: Find(%.9q, %d) is %s, %t", name, e.Key, at, shown(got), ok)
				}
			}
		}
	}
}

// What lies in the room behind a list's end is neither read nor changed.
func TestBk2RoomBehind(t *testing.T) {
	whole := []api.Entry{with("a", "x", 9), gone("a", 4), with("b", "y", 2), with("c", "", 1), {}, with("a", "wrong", 1)}
	was := slices.Clone(whole)
	for n := range 5 {
		l := whole[:n]
		if err := block.Check(l); err != api.OK {
			t.Errorf("Check(%d) is %d", n, err)
		}
		if s, err := block.Put(l); s != written(l) || err != api.OK {
			t.Errorf("Put(%d) is %q, %d", n, s, err)
		}
		for _, key := range []string{"a", "b", "c", ""} {
			want, there := found(l, key, 8)
			if e, ok := block.Find(l, key, 8); e != want || ok != there {
				t.Errorf("Find(%d, %q) is %s, %t", n, key, shown(e), ok)
			}
		}
	}
	if !slices.Equal(whole, was) {
		t.Error("entries were changed")
	}
}

func TestBk3TakeOfPut(t *testing.T) {
	texts := map[string]int{}
	for i, l := range append(lists(), full(mostEntries-1), full(mostEntries)) {
		s, err := block.Put(l)
		if err != api.OK {
			t.Fatalf("Put(%d entries) is refused: %d", len(l), err)
		}
		if got, err := block.Take(s); !slices.Equal(got, l) || err != api.OK {
			t.Errorf("Take(Put(%d entries)) is %d entries, %d", len(l), len(got), err)
		}
		if j, there := texts[s]; there {
			t.Errorf("the lists %d and %d have the same bytes", i, j)
		}
		texts[s] = i
	}
}

// A block of the most and greatest entries.
func TestBk3Greatest(t *testing.T) {
	var l []api.Entry
	for i, key := range named(mostEntries) {
		l = append(l, with(key+of("k", mostKey-len(key)), of(string([]byte{byte(i)}), mostValue), mostSeq-i))
	}
	s, err := block.Put(l)
	if err != api.OK || s != written(l) {
		t.Fatalf("Put is %d bytes, %d", len(s), err)
	}
	if got, err := block.Take(s); !slices.Equal(got, l) || err != api.OK {
		t.Errorf("Take is %d entries, %d", len(got), err)
	}
	for _, i := range []int{0, 2000, mostEntries - 1} {
		if e, ok := block.Find(l, l[i].Key, mostSeq); e != l[i] || !ok {
			t.Errorf("Find of the entry %d is %s, %t", i, shown(e), ok)
		}
	}
}

func TestBk3CutAnywhere(t *testing.T) {
	for _, l := range lists() {
		s := written(l)
		for i := 0; i < min(len(s), 3000); i++ {
			for _, cut := range []string{s[:i], s[len(s)-i:]} {
				if got, err := block.Take(cut); len(got) != 0 || err != api.ErrBlock {
					t.Fatalf("Take(%d of %d bytes) is %s, %d", i, len(s), shown(got...), err)
				}
			}
		}
	}
}

// turns are ways to turn one to four bytes in a row, each of them at least one bit.
func turns() []string {
	l := []string{}
	for b := 1; b < 256; b++ {
		l = append(l, string([]byte{byte(b)}))
	}
	next := noise(1)
	for n := 2; n <= 4; n++ {
		for range 100 {
			b := make([]byte, n)
			for i := range b {
				b[i] = byte(next(256))
			}
			b[0], b[n-1] = b[0]|1<<next(8), b[n-1]|1<<next(8)
			l = append(l, string(b))
		}
	}
	return append(l, "\x78\x3b\xf6\x82") // the sum's own bits
}

func TestBk3UpToFourBytesOthers(t *testing.T) {
	ways := turns()
	for _, l := range lists() {
		s := written(l)
		if len(s) > 2000 {
			continue
		}
		for _, turn := range ways {
			for from := 0; from+len(turn) <= len(s)-4; from += 1 + len(s)/80 {
				bad := []byte(s)
				for i := range len(turn) {
					bad[from+i] ^= turn[i]
				}
				if got, err := block.Take(string(bad)); len(got) != 0 || err != api.ErrBlock {
					t.Fatalf("Take(%q) is %s, %d: %q with %q turned in at %d", bad, shown(got...), err, s, turn, from)
				}
			}
		}
	}
}
