package manifest_test

import (
	"math"
	"slices"
	"sort"
	"strconv"
	"strings"
	"testing"

	"sorrel/api"
	"sorrel/manifest"
)

// The limits, as the chapters say them.
const (
	mostTables = 128
	mostNumber = 1 << 30
	mostKey    = 64
	mostLevel  = 2
)

// of is so many bytes of one kind.
func of(b string, n int) string {
	return strings.Repeat(b, n)
}

// tab is a table.
func tab(id, level int, lo, hi string) api.Tab {
	return api.Tab{Id: id, Level: level, Lo: lo, Hi: hi}
}

// adds is an edit by which tables come, and no log counts less.
func adds(next int, l ...api.Tab) api.Edit {
	return api.Edit{Add: l, Next: next}
}

// drops is an edit by which tables go.
func drops(next int, ids ...int) api.Edit {
	return api.Edit{Drop: ids, Next: next}
}

// noise are numbers below n, the same each time.
func noise(seed uint32) func(n int) int {
	return func(n int) int {
		seed = seed*1664525 + 1013904223
		return int(seed>>8) % n
	}
}

// tables are so many tables of level 0, numbered from one on.
func tables(from, n int) []api.Tab {
	var l []api.Tab
	for i := range n {
		key := "k" + strconv.Itoa(i)
		l = append(l, tab(from+i, 0, key, key+"z"))
	}
	return l
}

// numbers are so many numbers, from one on.
func numbers(from, n int) []int {
	var l []int
	for i := range n {
		l = append(l, from+i)
	}
	return l
}

// stands tells whether a text stands ahead of another one, byte by byte.
func stands(a, b string) bool {
	for i := range min(len(a), len(b)) {
		if a[i] != b[i] {
			return a[i] < b[i]
		}
	}
	return len(a) < len(b)
}

// isKey is what layer 4's chapter says of a key.
func isKey(s string) bool {
	return 1 <= len(s) && len(s) <= mostKey
}

// mayBe is what the chapter says of an edit that may be, word by word.
func mayBe(e api.Edit) bool {
	if len(e.Add) > mostTables || len(e.Drop) > mostTables {
		return false
	}
	for _, t := range e.Add {
		if t.Id < 1 || t.Id > mostNumber || t.Level < 0 || t.Level > mostLevel {
			return false
		}
		if !isKey(t.Lo) || !isKey(t.Hi) || stands(t.Hi, t.Lo) {
			return false
		}
	}
	for _, id := range e.Drop {
		if id < 1 || id > mostNumber {
			return false
		}
	}
	return 0 <= e.Log && e.Log <= mostNumber && 0 <= e.Next && e.Next <= mostNumber
}

// bytesOf is what layer 1's chapter says of a number's bytes.
func bytesOf(n int) string {
	var b []byte
	for n >= 128 {
		b = append(b, byte(n%128+128))
		n /= 128
	}
	return string(append(b, byte(n)))
}

// textOf is what layer 1's chapter says of Text.
func textOf(s string) string {
	return bytesOf(len(s)) + s
}

// written is what the chapter says of an edit's text, whether it may be or not.
func written(e api.Edit) string {
	s := bytesOf(len(e.Add))
	for _, t := range e.Add {
		s += bytesOf(t.Id) + bytesOf(t.Level) + textOf(t.Lo) + textOf(t.Hi)
	}
	s += bytesOf(len(e.Drop))
	for _, id := range e.Drop {
		s += bytesOf(id)
	}
	return s + bytesOf(e.Log) + bytesOf(e.Next)
}

// shared tells whether two tables have a key in common, as the chapter says it.
func shared(a, b api.Tab) bool {
	return !stands(a.Hi, b.Lo) && !stands(b.Hi, a.Lo)
}

// count is how often a number is there.
func count(l []int, n int) int {
	found := 0
	for _, m := range l {
		if m == n {
			found++
		}
	}
	return found
}

// ids are the numbers of tables.
func ids(l []api.Tab) []int {
	var numbers []int
	for _, t := range l {
		numbers = append(numbers, t.Id)
	}
	return numbers
}

// fits is what the chapter says of the numbers of an edit that a state does not refuse.
func fits(s api.State, e api.Edit) bool {
	for _, id := range e.Drop {
		if count(ids(s.Tabs), id) == 0 || count(e.Drop, id) > 1 {
			return false
		}
	}
	for _, t := range e.Add {
		if count(ids(s.Tabs), t.Id) > 0 || count(ids(e.Add), t.Id) > 1 || t.Id >= e.Next {
			return false
		}
	}
	return e.Log >= s.Log && e.Next >= s.Next
}

// ordered are tables in the order that the chapter says, each at the place that as many stand ahead of.
func ordered(l []api.Tab) []api.Tab {
	ahead := func(a, b api.Tab) bool {
		if a.Level != b.Level {
			return a.Level < b.Level
		}
		if a.Level == 0 {
			return a.Id > b.Id
		}
		return stands(a.Lo, b.Lo)
	}
	out := make([]api.Tab, len(l))
	for _, t := range l {
		place := 0
		for _, other := range l {
			if ahead(other, t) {
				place++
			}
		}
		out[place] = t
	}
	return out
}

// applied is what the chapter says of Apply, word by word.
func applied(s api.State, e api.Edit) (api.State, api.Errno) {
	if !mayBe(e) {
		return api.State{}, api.ErrArg
	}
	if !fits(s, e) {
		return api.State{}, api.ErrEdit
	}
	var l []api.Tab
	for _, t := range s.Tabs {
		if count(e.Drop, t.Id) == 0 {
			l = append(l, t)
		}
	}
	l = append(l, e.Add...)
	for i, a := range l {
		for j, b := range l {
			if i != j && a.Level > 0 && a.Level == b.Level && shared(a, b) {
				return api.State{}, api.ErrEdit
			}
		}
	}
	return api.State{Tabs: ordered(l), Log: e.Log, Next: e.Next}, api.OK
}

// overlapping is what the chapter says of Overlap, word by word, of a state in order.
func overlapping(s api.State, level int, lo, hi string) []api.Tab {
	var l []api.Tab
	for _, t := range s.Tabs {
		if t.Level == level && !stands(t.Hi, lo) && !stands(hi, t.Lo) {
			l = append(l, t)
		}
	}
	return l
}

// sameEdit tells whether two edits are the same.
func sameEdit(a, b api.Edit) bool {
	return slices.Equal(a.Add, b.Add) && slices.Equal(a.Drop, b.Drop) && a.Log == b.Log && a.Next == b.Next
}

// sameState tells whether two states are the same.
func sameState(a, b api.State) bool {
	return slices.Equal(a.Tabs, b.Tabs) && a.Log == b.Log && a.Next == b.Next
}

// zeroEdit tells whether an edit is zero, its lists nil or empty.
func zeroEdit(e api.Edit) bool {
	return sameEdit(e, api.Edit{})
}

// zeroState tells whether a state is zero, its list nil or empty.
func zeroState(s api.State) bool {
	return sameState(s, api.State{})
}

// rights are edits that may be, by what they are.
func rights() map[string]api.Edit {
	low, high := tab(1, 0, "\x00", "\x00"), tab(mostNumber, mostLevel, of("\xff", mostKey), of("\xff", mostKey))
	return map[string]api.Edit{
		"zero":                      {},
		"of empty lists":            {Add: []api.Tab{}, Drop: []int{}},
		"a log":                     {Log: 1},
		"a next number":             {Next: 1},
		"the greatest log":          {Log: mostNumber},
		"the greatest next number":  {Next: mostNumber},
		"log above next":            {Log: 9, Next: 2},
		"the least table":           {Add: []api.Tab{low}},
		"the greatest table":        {Add: []api.Tab{high}},
		"both":                      {Add: []api.Tab{low, high}, Drop: []int{1, mostNumber}, Log: mostNumber, Next: mostNumber},
		"one key":                   adds(9, tab(2, 1, "a", "a")),
		"a beginning ahead":         adds(9, tab(2, 1, "a", "a\x00")),
		"bytes above 127 behind":    adds(9, tab(2, 1, "\x7f", "\x80")),
		"keys of 1 and 64 bytes":    adds(9, tab(2, 1, "a", of("a", mostKey))),
		"keys of 63 and 64 bytes":   adds(9, tab(2, 1, of("a", 63), of("a", mostKey))),
		"each level":                adds(9, tab(3, 2, "a", "b"), tab(2, 1, "a", "b"), tab(1, 0, "a", "b")),
		"keys in common":            adds(9, tab(3, 1, "a", "m"), tab(2, 1, "f", "z")),
		"a table twice":             adds(9, tab(3, 1, "a", "m"), tab(3, 1, "a", "m")),
		"a number not below next":   adds(2, tab(2, 1, "a", "m"), tab(3, 1, "x", "z")),
		"a number drops":            drops(0, 5),
		"a number drops twice":      drops(0, 5, 5),
		"numbers drop":              drops(7, 5, 3, 200, 128, 127, 1<<14, 1<<21, 1<<28),
		"what comes drops":          {Add: []api.Tab{tab(4, 0, "a", "a")}, Drop: []int{4}, Next: 9},
		"127 come":                  adds(200, tables(1, 127)...),
		"128 come":                  adds(200, tables(1, mostTables)...),
		"127 drop":                  drops(200, numbers(1, 127)...),
		"128 drop":                  drops(200, numbers(1, mostTables)...),
		"128 come, 128 drop":        {Add: tables(1, mostTables), Drop: numbers(1000, mostTables), Log: 77, Next: 300},
		"128 come of great numbers": adds(mostNumber, tables(mostNumber-127, mostTables)...),
		"keys of all bytes":         adds(9, tab(1, 0, "\x00", "\xff"), tab(2, 0, "\n", "\u00e9"), tab(3, 0, "\x01a\x02", "\x01b")),
	}
}

// wrongTables are tables that may not be, by what is wrong.
func wrongTables() map[string]api.Tab {
	m := map[string]api.Tab{
		"zero":                            {},
		"without a least key":             tab(5, 1, "", "m"),
		"without a greatest key":          tab(5, 1, "a", ""),
		"without keys":                    tab(5, 1, "", ""),
		"with a least key of 65":          tab(5, 1, of("a", 65), "m"),
		"with a greatest key of 65":       tab(5, 1, "a", of("m", 65)),
		"with both of 65":                 tab(5, 1, of("a", 65), of("a", 65)),
		"with a key of 1000":              tab(5, 1, "a", of("m", 1000)),
		"with keys that fall":             tab(5, 1, "b", "a"),
		"with a beginning behind":         tab(5, 1, "a\x00", "a"),
		"with bytes above 127 ahead":      tab(5, 1, "\x80", "\x7f"),
		"with 64 bytes ahead of 63":       tab(5, 1, of("a", mostKey), of("a", 63)),
		"at level 0, with keys that fall": tab(5, 0, "b", "a"),
	}
	for _, id := range []int{0, -1, mostNumber + 1, 1 << 31, 1<<32 + 1, math.MaxInt, math.MinInt} {
		m["of the number "+strconv.Itoa(id)] = tab(id, 1, "a", "m")
	}
	for _, level := range []int{-1, 3, 4, 127, 128, 256, 1 << 32, math.MaxInt, math.MinInt} {
		m["of the level "+strconv.Itoa(level)] = tab(5, level, "a", "m")
	}
	return m
}

// wrongs are edits that may not be, by what is wrong.
func wrongs() map[string]api.Edit {
	m := map[string]api.Edit{
		"129 come":           adds(200, tables(1, mostTables+1)...),
		"129 drop":           drops(200, numbers(1, mostTables+1)...),
		"256 come":           adds(300, tables(1, 2*mostTables)...),
		"256 drop":           drops(300, numbers(1, 2*mostTables)...),
		"129 come, 129 drop": {Add: tables(1, 129), Drop: numbers(1, 129), Next: 200},
		"5000 come":          adds(9000, tables(1, 5000)...),
	}
	for name, t := range wrongTables() {
		m["a table alone "+name] = adds(9, t)
		m["a table first "+name] = adds(9, t, tab(6, 0, "x", "z"))
		m["a table last "+name] = adds(9, tab(6, 0, "x", "z"), tab(7, 0, "x", "z"), t)
		m["the 128th table "+name] = adds(200, append(tables(1, mostTables-1), t)...)
	}
	for _, n := range []int{-1, math.MinInt, mostNumber + 1, 1 << 31, 1<<32 + 5, 1 << 62, math.MaxInt} {
		name := strconv.Itoa(n)
		m["the log "+name] = api.Edit{Log: n}
		m["the next number "+name] = api.Edit{Next: n}
		m["a drop of "+name] = drops(9, n)
		m["a last drop of "+name] = drops(9, 1, 2, 3, n)
		m["a first drop of "+name] = drops(9, n, 1)
	}
	m["a drop of 0"] = drops(9, 0)
	m["a drop of 0 behind"] = drops(9, 1, 0)
	return m
}

func TestMf1CheckRight(t *testing.T) {
	for name, e := range rights() {
		if err := manifest.Check(e); err != api.OK {
			t.Errorf("%s: Check is %d", name, err)
		}
	}
}

func TestMf1Refused(t *testing.T) {
	for name, e := range wrongs() {
		if err := manifest.Check(e); err != api.ErrArg {
			t.Errorf("%s: Check is %d, not ErrArg", name, err)
		}
		if s, err := manifest.Put(e); s != "" || err != api.ErrArg {
			t.Errorf("%s: Put is %d bytes, %d, not ErrArg", name, len(s), err)
		}
	}
}

func TestMf1CheckEachLength(t *testing.T) {
	for n := range 300 {
		want := api.OK
		if n > mostTables {
			want = api.ErrArg
		}
		if err := manifest.Check(adds(0, tables(1, n)...)); err != want {
			t.Errorf("Check of %d tables that come is %d", n, err)
		}
		if err := manifest.Check(drops(0, numbers(1, n)...)); err != want {
			t.Errorf("Check of %d that drop is %d", n, err)
		}
		want = api.OK
		if n < 1 || n > mostKey {
			want = api.ErrArg
		}
		if err := manifest.Check(adds(0, tab(1, 0, of("k", n), of("k", n)))); err != want {
			t.Errorf("Check of a table with keys of %d bytes is %d", n, err)
		}
		if err := manifest.Check(adds(0, tab(1, 0, "a", of("k", n)))); err != want {
			t.Errorf("Check of a table up to a key of %d bytes is %d", n, err)
		}
	}
}

// puts are edits, and their texts byte by byte.
var puts = []struct {
	e    api.Edit
	want string
}{
	{api.Edit{}, "\x00\x00\x00\x00"},
	{api.Edit{Log: 1, Next: 2}, "\x00\x00\x01\x02"},
	{api.Edit{Drop: []int{3}, Log: 1, Next: 2}, "\x00\x01\x03\x01\x02"},
	{api.Edit{Drop: []int{300, 127}, Log: 128, Next: 0}, "\x00\x02\xac\x02\x7f\x80\x01\x00"},
	{adds(6, tab(5, 0, "x", "x")), "\x01\x05\x00\x01x\x01x\x00\x00\x06"},
	{adds(301, tab(300, 2, "ab", "b")), "\x01\xac\x02\x02\x02ab\x01b\x00\x00\xad\x02"},
	{adds(9, tab(2, 1, "m", "z"), tab(1, 0, "a", "b")), "\x02\x02\x01\x01m\x01z\x01\x00\x01a\x01b\x00\x00\x09"},
	{api.Edit{Add: []api.Tab{tab(7, 1, "a", "b")}, Drop: []int{6, 5}, Log: 3, Next: 8}, "\x01\x07\x01\x01a\x01b\x02\x06\x05\x03\x08"},
	{api.Edit{Log: mostNumber, Next: mostNumber}, "\x00\x00\x80\x80\x80\x80\x04\x80\x80\x80\x80\x04"},
	{adds(2, tab(1, 0, "\x00", "\xff")), "\x01\x01\x00\x01\x00\x01\xff\x00\x00\x02"},
}

func TestMf1PutNamed(t *testing.T) {
	for _, c := range puts {
		if s, err := manifest.Put(c.e); s != c.want || err != api.OK {
			t.Errorf("Put(%#v) is %q, %d, not %q", c.e, s, err, c.want)
		}
		if e, err := manifest.Take(c.want); !sameEdit(e, c.e) || err != api.OK {
			t.Errorf("Take(%q) is %#v, %d, not %#v", c.want, e, err, c.e)
		}
	}
}

func TestMf1PutAsSaid(t *testing.T) {
	for name, e := range rights() {
		if s, err := manifest.Put(e); s != written(e) || err != api.OK {
			t.Errorf("%s: Put is %q, %d, not %q", name, s, err, written(e))
		}
	}
}

func TestMf1TakeRefusesWhatPutDoes(t *testing.T) {
	for name, e := range wrongs() {
		// A number below 0 has no bytes.
		negative := e.Log < 0 || e.Next < 0
		for _, id := range e.Drop {
			negative = negative || id < 0
		}
		for _, t := range e.Add {
			negative = negative || t.Id < 0 || t.Level < 0
		}
		if negative {
			continue
		}
		if got, err := manifest.Take(written(e)); !zeroEdit(got) || err != api.ErrEdit {
			t.Errorf("%s: Take is %#v, %d, not ErrEdit", name, got, err)
		}
	}
}

// faults are texts of no edit, by what is wrong.
func faults() map[string]string {
	key := func(n int) string { return textOf(of("k", n)) }
	table := func(id, level, lo, hi string) string { return "\x01" + id + level + lo + hi + "\x00\x00\x09" }
	return map[string]string{
		"empty":                          "",
		"one byte":                       "\x00",
		"two bytes":                      "\x00\x00",
		"without a next number":          "\x00\x00\x00",
		"one byte more":                  "\x00\x00\x00\x00\x00",
		"two edits":                      "\x00\x00\x00\x00\x00\x00\x00\x00",
		"a newline behind":               "\x00\x00\x01\x02\n",
		"fewer tables than said":         "\x02\x05\x00\x01x\x01x\x00\x00\x06",
		"more tables than said":          "\x00\x05\x00\x01x\x01x\x00\x00\x06",
		"fewer numbers than said":        "\x00\x03\x01\x01\x02",
		"more numbers than said":         "\x00\x01\x01\x02\x01\x02",
		"a count in two bytes":           "\x80\x00\x00\x00\x00",
		"a count of drops in two bytes":  "\x00\x80\x00\x00\x00",
		"a log in two bytes":             "\x00\x00\x80\x00\x00",
		"a next number in two bytes":     "\x00\x00\x00\x80\x00",
		"a drop in two bytes":            "\x00\x01\x81\x00\x00\x00",
		"a number in two bytes":          table("\x81\x00", "\x00", key(1), key(1)),
		"a level in two bytes":           table("\x01", "\x81\x00", key(1), key(1)),
		"a key's length in two bytes":    table("\x01", "\x00", "\x81\x00k", key(1)),
		"another length in two bytes":    table("\x01", "\x00", key(1), "\x81\x00k"),
		"a next number without its end":  "\x00\x00\x00\x80",
		"a log of ten bytes":             "\x00\x00" + of("\x80", 9) + "\x01\x00",
		"a log above all numbers":        "\x00\x00" + of("\xff", 8) + "\x7f\x00",
		"2^62 tables":                    of("\x80", 8) + "\x40\x00\x00\x00",
		"2^62 numbers":                   "\x00" + of("\x80", 8) + "\x40\x00\x00",
		"2^30 tables":                    "\x80\x80\x80\x80\x04\x00\x00\x00",
		"a table of the number 0":        table("\x00", "\x00", key(1), key(1)),
		"a table of the level 3":         table("\x01", "\x03", key(1), key(1)),
		"a table without a least key":    table("\x01", "\x00", key(0), key(1)),
		"a table without a greatest key": table("\x01", "\x00", key(1), key(0)),
		"a table up to a key of 65":      table("\x01", "\x00", key(1), key(65)),
		"a table from a key of 65":       table("\x01", "\x00", key(65), key(66)),
		"a table up to a key of 2^18":    table("\x01", "\x00", key(1), key(1<<18)),
		"a table up to a key above 2^18": table("\x01", "\x00", key(1), key(1<<18+1)),
		"a table whose keys fall":        table("\x01", "\x00", key(2), key(1)),
		"a drop of 0":                    "\x00\x01\x00\x00\x00",
		"a drop of 2^30 + 1":             "\x00\x01\x81\x80\x80\x80\x04\x00\x00",
		"a log of 2^30 + 1":              "\x00\x00\x81\x80\x80\x80\x04\x00",
		"a next number of 2^30 + 1":      "\x00\x00\x00\x81\x80\x80\x80\x04",
		"a key that goes on":             "\x01\x05\x00\x01x\x7fx\x00\x00\x06",
		"text":                           "manifest",
		"digits":                         "0000",
		"256 bytes of 0":                 of("\x00", 256),
		"a megabyte of 255":              of("\xff", 1<<20),
		"a megabyte of 128":              of("\x80", 1<<20),
	}
}

func TestMf1TakeRefuses(t *testing.T) {
	for name, s := range faults() {
		if e, err := manifest.Take(s); !zeroEdit(e) || err != api.ErrEdit {
			t.Errorf("%s: Take is %#v, %d, not ErrEdit", name, e, err)
		}
	}
}

// readOff is what layer 1's chapter says of a number that a text begins with: its bytes, as few as may be.
func readOff(s string) (int, string, bool) {
	n := 0
	for i := range min(len(s), 9) {
		n += int(s[i]%128) << (7 * i)
		if s[i] < 128 {
			return n, s[i+1:], n <= 1<<62 && bytesOf(n) == s[:i+1]
		}
	}
	return 0, s, false
}

// takenOff is what the chapter says of an edit's text, taken off it piece by piece.
func takenOff(s string) (api.Edit, bool) {
	var e api.Edit
	ok := true
	number := func() int {
		n, rest, right := readOff(s)
		s, ok = rest, ok && right
		return n
	}
	key := func() string {
		n := number()
		if n > len(s) {
			ok = false
			return ""
		}
		k := s[:n]
		s = s[n:]
		return k
	}
	for n := number(); ok && len(e.Add) < n; {
		id, level := number(), number()
		lo, hi := key(), key()
		e.Add = append(e.Add, tab(id, level, lo, hi))
	}
	for n := number(); ok && len(e.Drop) < n; {
		e.Drop = append(e.Drop, number())
	}
	e.Log = number()
	e.Next = number()
	return e, ok && s == "" && mayBe(e)
}

// eachText tells all texts of up to so many of these bytes.
func eachText(bytes string, upto int, tell func(s string)) {
	tell("")
	for n := 1; n <= upto; n++ {
		places := make([]int, n)
		for done := false; !done; {
			b := make([]byte, n)
			for i, p := range places {
				b[i] = bytes[p]
			}
			tell(string(b))
			done = true
			for i := range places {
				places[i]++
				if places[i] < len(bytes) {
					done = false
					break
				}
				places[i] = 0
			}
		}
	}
}

// checkTake holds Take of a text against the chapter's words.
func checkTake(t *testing.T, s string) {
	t.Helper()
	want, ok := takenOff(s)
	e, err := manifest.Take(s)
	if ok && (err != api.OK || !sameEdit(e, want)) {
		t.Fatalf("Take(%q) is %#v, %d, not %#v", s, e, err, want)
	}
	if !ok && (err != api.ErrEdit || !zeroEdit(e)) {
		t.Fatalf("Take(%q) is %#v, %d, not ErrEdit", s, e, err)
	}
	if !ok {
		return
	}
	if back, err := manifest.Put(e); back != s || err != api.OK {
		t.Fatalf("Put of Take(%q) is %q, %d", s, back, err)
	}
}

func TestMf1TakeOfAllShort(t *testing.T) {
	tell := func(s string) { checkTake(t, s) }
	eachText("\x00\x01\x02\x81", 8, tell)
	eachText("\x00\x01", 15, tell)
	eachText("\x00\x01\x02\x03\x7f\x80a\xff", 5, tell)
	// All that may stand between the first byte of a table and the end of its edit.
	eachText("\x00\x01\x02\x03a", 5, func(s string) { checkTake(t, "\x01"+s+"\x01b\x00\x00\x09") })
	eachText("\x00\x01\x02a\x80", 5, func(s string) { checkTake(t, "\x01\x05\x01"+s+"\x00\x00\x09") })
}

func TestMf1TakeOfPieces(t *testing.T) {
	pieces := []string{"\x00", "\x01", "\x02", "\x05\x00\x01a\x01b", "\x06\x01\x02ab\x01z", "\x7f", "\xac\x02", "\x80", "\x80\x00", "\x80\x80\x01", "\x01k", ""}
	next := noise(12)
	for range 300000 {
		s := ""
		for range next(9) {
			s += pieces[next(len(pieces))]
		}
		checkTake(t, s)
	}
}

func TestMf1CutAnywhere(t *testing.T) {
	for name, e := range rights() {
		s := written(e)
		for i := range len(s) {
			if got, err := manifest.Take(s[:i]); !zeroEdit(got) || err != api.ErrEdit {
				t.Errorf("%s: Take of %d of %d bytes is %#v, %d, not ErrEdit", name, i, len(s), got, err)
			}
		}
		for _, b := range []string{"\x00", "\x01", "\x80", "\xff", "a", s} {
			if got, err := manifest.Take(s + b); !zeroEdit(got) || err != api.ErrEdit {
				t.Errorf("%s: Take of its text and %q is %#v, %d, not ErrEdit", name, b, got, err)
			}
		}
	}
}

// Each byte of a text by another one: what is taken is just what has these bytes.
func TestMf1OneByteOther(t *testing.T) {
	for name, e := range rights() {
		s := written(e)
		if len(s) > 200 {
			continue
		}
		for i := range len(s) {
			for b := range 256 {
				other := s[:i] + string([]byte{byte(b)}) + s[i+1:]
				got, err := manifest.Take(other)
				if err == api.OK && (!mayBe(got) || written(got) != other) {
					t.Fatalf("%s, byte %d as %d: Take is %#v", name, i, b, got)
				}
				if err != api.OK && (err != api.ErrEdit || !zeroEdit(got)) {
					t.Fatalf("%s, byte %d as %d: Take is %#v, %d", name, i, b, got, err)
				}
			}
		}
	}
}

// behind is a state behind edits, each of which fits.
func behind(t *testing.T, edits ...api.Edit) api.State {
	t.Helper()
	var s api.State
	for i, e := range edits {
		next, err := manifest.Apply(s, e)
		if err != api.OK {
			t.Fatalf("edit %d of %#v is refused: %d", i, edits, err)
		}
		s = next
	}
	return s
}

func TestMf2Example(t *testing.T) {
	first := adds(2, tab(1, 0, "a", "m"))
	second := api.Edit{Add: []api.Tab{tab(2, 1, "a", "m")}, Drop: []int{1}, Next: 3}
	want := api.State{Tabs: []api.Tab{tab(2, 1, "a", "m")}, Next: 3}
	if s := behind(t, first, second); !sameState(s, want) {
		t.Errorf("the state is %#v, not %#v", s, want)
	}
}

// full is a state that has tables in each level.
func full(t *testing.T) api.State {
	return behind(t,
		adds(6, tab(3, 0, "a", "z"), tab(1, 0, "c", "c"), tab(5, 0, "b", "d")),
		api.Edit{Add: []api.Tab{tab(6, 1, "m", "p"), tab(9, 1, "b", "d"), tab(7, 1, "f", "f")}, Log: 4, Next: 10},
		api.Edit{Add: []api.Tab{tab(12, 2, "n", "z"), tab(10, 2, "a", "ab"), tab(11, 2, "ac", "c")}, Log: 4, Next: 20},
	)
}

func TestMf2InOrder(t *testing.T) {
	want := api.State{Tabs: []api.Tab{
		tab(5, 0, "b", "d"), tab(3, 0, "a", "z"), tab(1, 0, "c", "c"),
		tab(9, 1, "b", "d"), tab(7, 1, "f", "f"), tab(6, 1, "m", "p"),
		tab(10, 2, "a", "ab"), tab(11, 2, "ac", "c"), tab(12, 2, "n", "z"),
	}, Log: 4, Next: 20}
	if s := full(t); !sameState(s, want) {
		t.Errorf("the state is %#v, not %#v", s, want)
	}
}

// fitting are edits that fit the full state, and the numbers of the tables that it has behind them.
var fitting = map[string]struct {
	e    api.Edit
	want []int
}{
	"nothing":                       {api.Edit{Log: 4, Next: 20}, []int{5, 3, 1, 9, 7, 6, 10, 11, 12}},
	"a greater log":                 {api.Edit{Log: 5, Next: 20}, []int{5, 3, 1, 9, 7, 6, 10, 11, 12}},
	"the greatest log":              {api.Edit{Log: mostNumber, Next: 20}, []int{5, 3, 1, 9, 7, 6, 10, 11, 12}},
	"the greatest next number":      {api.Edit{Log: 4, Next: mostNumber}, []int{5, 3, 1, 9, 7, 6, 10, 11, 12}},
	"the number ahead of next":      {api.Edit{Add: []api.Tab{tab(20, 0, "k", "k")}, Log: 4, Next: 21}, []int{20, 5, 3, 1, 9, 7, 6, 10, 11, 12}},
	"the greatest number of all":    {api.Edit{Add: []api.Tab{tab(mostNumber-1, 0, "k", "k")}, Log: 4, Next: mostNumber}, []int{mostNumber - 1, 5, 3, 1, 9, 7, 6, 10, 11, 12}},
	"a number that none has":        {api.Edit{Add: []api.Tab{tab(4, 0, "k", "k")}, Log: 4, Next: 20}, []int{5, 4, 3, 1, 9, 7, 6, 10, 11, 12}},
	"two of level 0, one key":       {api.Edit{Add: []api.Tab{tab(20, 0, "k", "k"), tab(21, 0, "k", "k")}, Log: 4, Next: 22}, []int{21, 20, 5, 3, 1, 9, 7, 6, 10, 11, 12}},
	"one goes":                      {api.Edit{Drop: []int{3}, Log: 4, Next: 20}, []int{5, 1, 9, 7, 6, 10, 11, 12}},
	"all go":                        {api.Edit{Drop: []int{12, 1, 11, 3, 10, 5, 9, 7, 6}, Log: 4, Next: 20}, nil},
	"ahead of all of level 1":       {api.Edit{Add: []api.Tab{tab(20, 1, "a", "az")}, Log: 4, Next: 21}, []int{5, 3, 1, 20, 9, 7, 6, 10, 11, 12}},
	"between two of level 1":        {api.Edit{Add: []api.Tab{tab(20, 1, "d\x00", "e\xff")}, Log: 4, Next: 21}, []int{5, 3, 1, 9, 20, 7, 6, 10, 11, 12}},
	"behind all of level 1":         {api.Edit{Add: []api.Tab{tab(20, 1, "p\x00", "q")}, Log: 4, Next: 21}, []int{5, 3, 1, 9, 7, 6, 20, 10, 11, 12}},
	"in place of one that goes":     {api.Edit{Add: []api.Tab{tab(20, 1, "e", "l")}, Drop: []int{7}, Log: 4, Next: 21}, []int{5, 3, 1, 9, 20, 6, 10, 11, 12}},
	"in place of two that go":       {api.Edit{Add: []api.Tab{tab(20, 2, "a", "m")}, Drop: []int{11, 10}, Log: 4, Next: 21}, []int{5, 3, 1, 9, 7, 6, 20, 12}},
	"keys that another level has":   {api.Edit{Add: []api.Tab{tab(20, 2, "f", "m")}, Log: 4, Next: 21}, []int{5, 3, 1, 9, 7, 6, 10, 11, 20, 12}},
	"from level 0 down to 1":        {api.Edit{Add: []api.Tab{tab(21, 1, "g", "l"), tab(20, 1, "a", "f")}, Drop: []int{1, 3, 5, 9, 7}, Log: 9, Next: 30}, []int{20, 21, 6, 10, 11, 12}},
	"numbers with a hole, unsorted": {api.Edit{Add: []api.Tab{tab(28, 0, "a", "b"), tab(25, 0, "a", "b"), tab(27, 0, "a", "b")}, Log: 4, Next: 29}, []int{28, 27, 25, 5, 3, 1, 9, 7, 6, 10, 11, 12}},
}

func TestMf2Fitting(t *testing.T) {
	for name, c := range fitting {
		s, err := manifest.Apply(full(t), c.e)
		if err != api.OK || !slices.Equal(ids(s.Tabs), c.want) || s.Log != c.e.Log || s.Next != c.e.Next {
			t.Errorf("%s: Apply is %#v, %d, not the tables %#v", name, s, err, c.want)
		}
		if want, err := applied(full(t), c.e); err != api.OK || !sameState(s, want) {
			t.Errorf("%s: Apply is %#v, not %#v", name, s, want)
		}
	}
}

// unfit are edits that may be, and do not fit the full state.
var unfit = map[string]api.Edit{
	"a number that none has goes":   {Drop: []int{2}, Log: 4, Next: 20},
	"the next number goes":          {Drop: []int{20}, Log: 4, Next: 20},
	"one goes, and one that isn't":  {Drop: []int{3, 2}, Log: 4, Next: 20},
	"one goes twice":                {Drop: []int{3, 3}, Log: 4, Next: 20},
	"one goes twice, far apart":     {Drop: []int{3, 5, 1, 9, 3}, Log: 4, Next: 20},
	"what comes goes":               {Add: []api.Tab{tab(20, 0, "k", "k")}, Drop: []int{20}, Log: 4, Next: 21},
	"one comes that is there":       {Add: []api.Tab{tab(3, 0, "a", "z")}, Log: 4, Next: 20},
	"one comes by a number there":   {Add: []api.Tab{tab(12, 0, "k", "k")}, Log: 4, Next: 20},
	"one comes by one that goes":    {Add: []api.Tab{tab(3, 0, "k", "k")}, Drop: []int{3}, Log: 4, Next: 20},
	"one comes as it goes":          {Add: []api.Tab{tab(7, 1, "f", "f")}, Drop: []int{7}, Log: 4, Next: 20},
	"one comes twice":               {Add: []api.Tab{tab(20, 0, "k", "k"), tab(20, 0, "k", "k")}, Log: 4, Next: 21},
	"two come by one number":        {Add: []api.Tab{tab(20, 0, "k", "k"), tab(21, 0, "k", "k"), tab(20, 1, "x", "x")}, Log: 4, Next: 22},
	"one comes by next":             {Add: []api.Tab{tab(20, 0, "k", "k")}, Log: 4, Next: 20},
	"one comes above next":          {Add: []api.Tab{tab(22, 0, "k", "k")}, Log: 4, Next: 21},
	"the last one comes by next":    {Add: []api.Tab{tab(20, 0, "k", "k"), tab(21, 0, "k", "k")}, Log: 4, Next: 21},
	"the greatest number comes":     {Add: []api.Tab{tab(mostNumber, 0, "k", "k")}, Log: 4, Next: mostNumber},
	"a lesser log":                  {Log: 3, Next: 20},
	"no log":                        {Next: 20},
	"a lesser next number":          {Log: 4, Next: 19},
	"no next number":                {Log: 4},
	"nothing at all":                {},
	"one comes, the log is lesser":  {Add: []api.Tab{tab(20, 0, "k", "k")}, Log: 3, Next: 21},
	"one goes, next is lesser":      {Drop: []int{3}, Log: 4, Next: 19},
	"in common with one's end":      {Add: []api.Tab{tab(20, 1, "d", "e")}, Log: 4, Next: 21},
	"in common with one's begin":    {Add: []api.Tab{tab(20, 1, "l", "m")}, Log: 4, Next: 21},
	"within one":                    {Add: []api.Tab{tab(20, 1, "n", "n")}, Log: 4, Next: 21},
	"about one":                     {Add: []api.Tab{tab(20, 1, "e", "g")}, Log: 4, Next: 21},
	"as one":                        {Add: []api.Tab{tab(20, 1, "f", "f")}, Log: 4, Next: 21},
	"about all of level 2":          {Add: []api.Tab{tab(20, 2, "\x00", "\xff")}, Log: 4, Next: 21},
	"in common with one that stays": {Add: []api.Tab{tab(20, 2, "a", "m")}, Drop: []int{11}, Log: 4, Next: 21},
	"two that come, one key":        {Add: []api.Tab{tab(20, 2, "d", "f"), tab(21, 2, "f", "g")}, Log: 4, Next: 22},
	"two that come, falling":        {Add: []api.Tab{tab(20, 2, "f", "g"), tab(21, 2, "d", "f")}, Log: 4, Next: 22},
	"two that come, from one key":   {Add: []api.Tab{tab(20, 2, "f", "g"), tab(21, 2, "f", "f")}, Log: 4, Next: 22},
	"two that come, by a beginning": {Add: []api.Tab{tab(20, 2, "f", "ga"), tab(21, 2, "g", "h")}, Log: 4, Next: 22},
	"a late one in common":          {Add: []api.Tab{tab(20, 0, "f", "g"), tab(21, 2, "d", "f"), tab(22, 2, "x", "x")}, Log: 4, Next: 23},
}

func TestMf2Unfit(t *testing.T) {
	for name, e := range unfit {
		if s, err := manifest.Apply(full(t), e); !zeroState(s) || err != api.ErrEdit {
			t.Errorf("%s: Apply is %#v, %d, not ErrEdit", name, s, err)
		}
		if _, err := applied(full(t), e); err != api.ErrEdit {
			t.Errorf("%s: the words say %d", name, err)
		}
	}
}

// An edit that may not be is ErrArg, also where it would not fit either.
func TestMf2Refuses(t *testing.T) {
	for name, e := range wrongs() {
		for _, s := range []api.State{{}, full(t)} {
			if got, err := manifest.Apply(s, e); !zeroState(got) || err != api.ErrArg {
				t.Errorf("%s: Apply is %#v, %d, not ErrArg", name, got, err)
			}
		}
	}
	both := map[string]api.Edit{
		"one goes twice, a level is wrong":  {Add: []api.Tab{tab(20, 3, "a", "b")}, Drop: []int{3, 3}, Log: 4, Next: 21},
		"the log is lesser, next is wrong":  {Log: 3, Next: -1},
		"the log is wrong, next is lesser":  {Log: mostNumber + 1, Next: 1},
		"one that isn't goes, and 0":        {Drop: []int{2, 0}, Log: 4, Next: 20},
		"in common, and keys fall":          {Add: []api.Tab{tab(20, 1, "a", "z"), tab(21, 1, "b", "a")}, Log: 4, Next: 22},
		"a number above next, and above it": {Add: []api.Tab{tab(mostNumber+1, 0, "a", "b")}, Log: 4, Next: 20},
	}
	for name, e := range both {
		if got, err := manifest.Apply(full(t), e); !zeroState(got) || err != api.ErrArg {
			t.Errorf("%s: Apply is %#v, %d, not ErrArg", name, got, err)
		}
	}
}

// checkApply holds Apply against the chapter's words: the state behind, and whether the edit fits.
func checkApply(t *testing.T, s api.State, e api.Edit) (api.State, bool) {
	t.Helper()
	want, wantErr := applied(s, e)
	got, err := manifest.Apply(s, e)
	if err != wantErr || !sameState(got, want) {
		t.Fatalf("Apply(%#v, %#v) is %#v, %d, not %#v, %d", s, e, got, err, want, wantErr)
	}
	return got, err == api.OK
}

// shortEdits are edits of up to two tables that come, and one that goes, of few numbers, levels and keys.
func shortEdits() []api.Edit {
	var some []api.Tab
	for id := 1; id <= 3; id++ {
		for _, level := range []int{0, 1} {
			for _, k := range []string{"aa", "ab", "bb"} {
				some = append(some, tab(id, level, k[:1], k[1:]))
			}
		}
	}
	lists := [][]api.Tab{nil}
	for i, a := range some {
		lists = append(lists, []api.Tab{a})
		for _, b := range some[i%5:] {
			lists = append(lists, []api.Tab{a, b})
		}
	}
	var l []api.Edit
	for i, add := range lists {
		for _, drop := range [][]int{nil, {1}, {2, 1}} {
			l = append(l, api.Edit{Add: add, Drop: drop, Log: i % 2, Next: 2 + (i+len(drop))%3})
		}
	}
	return l
}

// All pairs of short edits, one behind the other, from the zero state on.
func TestMf2AllShort(t *testing.T) {
	edits := shortEdits()
	fit := 0
	for _, first := range edits {
		s, ok := checkApply(t, api.State{}, first)
		if !ok {
			continue
		}
		for _, second := range edits {
			if _, ok := checkApply(t, s, second); ok {
				fit++
			}
		}
	}
	if fit < 100 {
		t.Errorf("only %d pairs fit", fit)
	}
}

// ends are keys at which tables begin and end.
var ends = []string{"\x00", "a", "a\x00", "ab", "b", "c", "ca", "d", "m", "\x7f", "\x80", "\xff", of("a", mostKey), of("z", mostKey)}

// mixed is an edit that may be, and that fits a state in part only, where it is wild.
func mixed(next func(int) int, s api.State, wild bool) api.Edit {
	e := api.Edit{Log: s.Log + next(2), Next: s.Next + next(4)}
	for _, t := range s.Tabs {
		if next(4) == 0 {
			e.Drop = append(e.Drop, t.Id)
		}
	}
	for i := range next(4) {
		lo, hi := ends[next(len(ends))], ends[next(len(ends))]
		e.Add = append(e.Add, tab(max(1, s.Next)+i, next(3), min(lo, hi), max(lo, hi)))
		e.Next = max(e.Next, s.Next+i+2)
	}
	if !wild {
		return e
	}
	switch next(5) {
	case 0:
		e.Log = max(0, e.Log-1)
	case 1:
		e.Next = max(0, e.Next-1)
	case 2:
		e.Drop = append(e.Drop, 1+next(9))
	case 3:
		e.Add = append(e.Add, tab(1+next(9), next(4), "a", ends[next(len(ends))]))
	case 4:
		slices.Reverse(e.Add)
	}
	return e
}

func TestMf2AsSaid(t *testing.T) {
	fit := 0
	for seed := range 300 {
		next := noise(uint32(seed))
		var s api.State
		for range 60 {
			got, ok := checkApply(t, s, mixed(next, s, next(3) == 0))
			if ok {
				s = got
				fit++
			}
		}
	}
	if fit < 3000 {
		t.Errorf("only %d edits fit", fit)
	}
}

// A state of as many tables as come by 40 edits of 128.
func TestMf2Many(t *testing.T) {
	var s api.State
	key := func(n int) string { return "k" + strconv.Itoa(1000000+n) }
	for i := range 40 {
		e := api.Edit{Log: i, Next: (i + 1) * 1000}
		for j := range mostTables {
			// Those of one edit stand between those of others.
			n := j*40 + (i*17)%40
			e.Add = append(e.Add, tab(i*1000+j+1, 1+i%2, key(n), key(n)))
		}
		got, err := manifest.Apply(s, e)
		if err != api.OK || len(got.Tabs) != (i+1)*mostTables {
			t.Fatalf("edit %d: %d tables, %d", i, len(got.Tabs), err)
		}
		s = got
	}
	if !slices.Equal(s.Tabs, ordered(s.Tabs)) {
		t.Error("the tables are not in order")
	}
	e := api.Edit{Log: 99, Next: 99999}
	for _, t := range s.Tabs[1000:1128] {
		e.Drop = append(e.Drop, t.Id)
	}
	want := slices.Concat(s.Tabs[:1000], s.Tabs[1128:])
	if got, err := manifest.Apply(s, e); err != api.OK || !slices.Equal(got.Tabs, want) {
		t.Errorf("behind 128 that go: %d tables, %d", len(got.Tabs), err)
	}
}

// texts are edits as texts.
func texts(edits []api.Edit) []string {
	var l []string
	for _, e := range edits {
		l = append(l, written(e))
	}
	return l
}

func TestMf3ReplayNamed(t *testing.T) {
	if s, err := manifest.Replay(nil); !zeroState(s) || err != api.OK {
		t.Errorf("Replay of nothing is %#v, %d", s, err)
	}
	if s, err := manifest.Replay([]string{}); !zeroState(s) || err != api.OK {
		t.Errorf("Replay of an empty list is %#v, %d", s, err)
	}
	edits := []api.Edit{
		{Add: []api.Tab{tab(1, 0, "a", "m")}, Log: 1, Next: 2},
		{Add: []api.Tab{tab(2, 1, "a", "m")}, Drop: []int{1}, Log: 2, Next: 3},
		{Add: []api.Tab{tab(3, 0, "x", "x")}, Log: 2, Next: 4},
	}
	want := []api.State{
		{},
		{Tabs: []api.Tab{tab(1, 0, "a", "m")}, Log: 1, Next: 2},
		{Tabs: []api.Tab{tab(2, 1, "a", "m")}, Log: 2, Next: 3},
		{Tabs: []api.Tab{tab(3, 0, "x", "x"), tab(2, 1, "a", "m")}, Log: 2, Next: 4},
	}
	for i := range want {
		if s, err := manifest.Replay(texts(edits[:i])); !sameState(s, want[i]) || err != api.OK {
			t.Errorf("Replay of %d is %#v, %d, not %#v", i, s, err, want[i])
		}
	}
}

func TestMf3ReplayRefuses(t *testing.T) {
	a := written(adds(2, tab(1, 0, "a", "m")))
	b := written(adds(3, tab(2, 1, "a", "m")))
	refused := map[string][]string{
		"no edit":                    {""},
		"no edit first":              {"", a, b},
		"no edit in the midst":       {a, "x", b},
		"no edit last":               {a, b, ""},
		"a cut one last":             {a, b[:len(b)-1]},
		"one with more behind":       {a + "\x00", b},
		"two as one":                 {a + b},
		"one twice":                  {a, a},
		"one twice, others between":  {a, b, a},
		"one that is taken back":     {b, a},
		"one that drops what is not": {written(drops(1, 1))},
		"one that may not be":        {a, written(drops(3, 0))},
		"one of 129":                 {written(adds(200, tables(1, 129)...))},
		"one number comes anew":      {a, b, written(api.Edit{Add: []api.Tab{tab(1, 0, "a", "b")}, Drop: []int{1}, Next: 4})},
		"what goes goes again":       {a, written(drops(2, 1)), written(drops(2, 1))},
		"the log goes back":          {written(api.Edit{Log: 2}), written(api.Edit{Log: 1})},
		"next goes back":             {written(api.Edit{Next: 2}), written(api.Edit{Next: 1})},
		"right again behind":         {a, written(drops(2, 7)), b},
	}
	for name, l := range refused {
		if s, err := manifest.Replay(l); !zeroState(s) || err != api.ErrEdit {
			t.Errorf("%s: Replay is %#v, %d, not ErrEdit", name, s, err)
		}
	}
	for name, s := range faults() {
		if got, err := manifest.Replay([]string{a, s}); !zeroState(got) || err != api.ErrEdit {
			t.Errorf("%s: Replay is %#v, %d, not ErrEdit", name, got, err)
		}
	}
}

// Replay of runs, also of those with an edit that does not fit, is what Apply is of each, from the zero state on.
func TestMf3ReplayAsSaid(t *testing.T) {
	for seed := range 200 {
		next := noise(uint32(seed + 1000))
		var s api.State
		var edits []api.Edit
		for range 25 {
			e := mixed(next, s, next(20) == 0)
			edits = append(edits, e)
			got, err := applied(s, e)
			if err != api.OK {
				if r, err := manifest.Replay(texts(edits)); !zeroState(r) || err != api.ErrEdit {
					t.Fatalf("Replay of %#v is %#v, %d, not ErrEdit", edits, r, err)
				}
				edits = edits[:len(edits)-1]
				continue
			}
			s = got
			if r, err := manifest.Replay(texts(edits)); !sameState(r, s) || err != api.OK {
				t.Fatalf("Replay of %#v is %#v, %d, not %#v", edits, r, err, s)
			}
		}
	}
}

// overlaps are ranges of keys of levels of the full state, and the numbers of their tables.
var overlaps = []struct {
	level  int
	lo, hi string
	want   []int
}{
	{0, "a", "z", []int{5, 3, 1}},
	{0, "c", "c", []int{5, 3, 1}},
	{0, "e", "y", []int{3}},
	{0, "b", "b", []int{5, 3}},
	{0, "z\x00", "\xff", nil},
	{0, "\x00", "Z", nil},
	{1, "a", "z", []int{9, 7, 6}},
	{1, "f", "f", []int{7}},
	{1, "d", "f", []int{9, 7}},
	{1, "d\x00", "e\xff", nil},
	{1, "d", "d", []int{9}},
	{1, "b", "b", []int{9}},
	{1, "a", "b", []int{9}},
	{1, "a", "a\xff", nil},
	{1, "p", "q", []int{6}},
	{1, "p\x00", "q", nil},
	{1, "n", "o", []int{6}},
	{1, "f", "m", []int{7, 6}},
	{1, "f\x00", "l\xff", nil},
	{2, "ab", "ac", []int{10, 11}},
	{2, "ab\x00", "abz", nil},
	{2, "c", "n", []int{11, 12}},
	{2, "zz", "zzz", nil},
	// Texts that are no keys: they stand where their bytes say.
	{1, "", "z", []int{9, 7, 6}},
	{1, "", "b", []int{9}},
	{1, "", "", nil},
	{1, "a", "", nil},
	{0, "", "", nil},
	{1, of("c", 1000), of("f", 1000), []int{9, 7}},
	{2, "", of("\xff", 1000), []int{10, 11, 12}},
	// What is asked backwards has what holds it all.
	{1, "o", "n", []int{6}},
	{1, "d", "b", []int{9}},
	{1, "m", "f", nil},
	{0, "y", "b", []int{3}},
	// There is nothing in other levels.
	{3, "a", "z", nil},
	{-1, "a", "z", nil},
	{math.MaxInt, "a", "z", nil},
	{math.MinInt, "a", "z", nil},
}

func TestMf3OverlapNamed(t *testing.T) {
	s := full(t)
	for _, c := range overlaps {
		if got := manifest.Overlap(s, c.level, c.lo, c.hi); !slices.Equal(ids(got), c.want) {
			t.Errorf("Overlap(%d, %q, %q) is %#v, not %#v", c.level, c.lo, c.hi, got, c.want)
		}
		if got := manifest.Overlap(api.State{}, c.level, c.lo, c.hi); len(got) != 0 {
			t.Errorf("Overlap(%d, %q, %q) of the zero state is %#v", c.level, c.lo, c.hi, got)
		}
	}
}

func TestMf3OverlapAsSaid(t *testing.T) {
	keys := append([]string{"", "aa", "l", of("\xff", 65)}, ends...)
	for seed := range 60 {
		next := noise(uint32(seed + 500))
		var s api.State
		for range 40 {
			if got, err := manifest.Apply(s, mixed(next, s, false)); err == api.OK {
				s = got
			}
		}
		for _, lo := range keys {
			for _, hi := range keys {
				for level := -1; level <= 3; level++ {
					want := overlapping(s, level, lo, hi)
					if got := manifest.Overlap(s, level, lo, hi); !slices.Equal(got, want) {
						t.Fatalf("Overlap(%#v, %d, %q, %q) is %#v, not %#v", s, level, lo, hi, got, want)
					}
				}
			}
		}
	}
}

// A state that came of no call: what overlaps stands in order all the same.
func TestMf3OverlapInOrder(t *testing.T) {
	s := full(t)
	want := [][]int{{5, 3, 1}, {9, 7, 6}, {10, 11, 12}}
	next := noise(3)
	for range 100 {
		for i := range s.Tabs {
			j := next(i + 1)
			s.Tabs[i], s.Tabs[j] = s.Tabs[j], s.Tabs[i]
		}
		for level, l := range want {
			if got := manifest.Overlap(s, level, "a", "z"); !slices.Equal(ids(got), l) {
				t.Fatalf("Overlap of level %d of %#v is %#v", level, s.Tabs, got)
			}
		}
	}
}

func TestMf4TakeOfPut(t *testing.T) {
	for name, e := range rights() {
		s, err := manifest.Put(e)
		if err != api.OK {
			t.Errorf("%s: Put is %d", name, err)
		}
		if back, err := manifest.Take(s); !sameEdit(back, e) || err != api.OK {
			t.Errorf("%s: Take of Put is %#v, %d, not %#v", name, back, err, e)
		}
	}
	next := noise(4)
	for range 2000 {
		e := api.Edit{Log: next(1 << (1 + next(23))), Next: next(1 << (1 + next(23)))}
		for range next(9) {
			lo, hi := ends[next(len(ends))], ends[next(len(ends))]
			e.Add = append(e.Add, tab(1+next(1<<(1+next(23))), next(3), min(lo, hi), max(lo, hi)))
		}
		for range next(9) {
			e.Drop = append(e.Drop, 1+next(1<<(1+next(23))))
		}
		s, err := manifest.Put(e)
		if err != api.OK || s != written(e) {
			t.Fatalf("Put(%#v) is %q, %d, not %q", e, s, err, written(e))
		}
		if back, err := manifest.Take(s); !sameEdit(back, e) || err != api.OK {
			t.Fatalf("Take of Put is %#v, %d, not %#v", back, err, e)
		}
	}
}

func TestMf4NumbersOfAllSizes(t *testing.T) {
	for i := range 31 {
		for _, n := range []int{1<<i - 1, 1 << i, 1<<i + 1} {
			if n > mostNumber {
				continue
			}
			e := api.Edit{Add: []api.Tab{tab(max(1, n), 1, "a", "b")}, Drop: []int{max(1, n)}, Log: n, Next: n}
			s, err := manifest.Put(e)
			if err != api.OK || s != written(e) {
				t.Errorf("Put of the number %d is %q, %d, not %q", n, s, err, written(e))
			}
			if back, err := manifest.Take(s); !sameEdit(back, e) || err != api.OK {
				t.Errorf("Take of Put of the number %d is %#v, %d", n, back, err)
			}
		}
	}
}

// Where Next rises above each number that is given, and numbers from it on are given, each is given once; tables stand apart.
func TestMf4GivenOnce(t *testing.T) {
	for seed := range 100 {
		next := noise(uint32(seed + 77))
		var s api.State
		given := map[int]bool{}
		for range 80 {
			e := mixed(next, s, false)
			got, err := manifest.Apply(s, e)
			if err != api.OK {
				continue
			}
			s = got
			for _, tab := range e.Add {
				if given[tab.Id] {
					t.Fatalf("the number %d is given again", tab.Id)
				}
				given[tab.Id] = true
			}
			checkApart(t, s)
		}
	}
}

// checkApart holds a state's tables of each level above 0 against each other, and all against its next number.
func checkApart(t *testing.T, s api.State) {
	t.Helper()
	for i, a := range s.Tabs {
		if a.Id >= s.Next {
			t.Fatalf("the number %d of %#v is not below its next one", a.Id, s)
		}
		for _, b := range s.Tabs[:i] {
			if a.Id == b.Id || a.Level > 0 && a.Level == b.Level && shared(a, b) {
				t.Fatalf("%#v and %#v are both there", a, b)
			}
		}
	}
}

// spoil fills lists, and the room behind their ends, with other things.
func spoil(tabs []api.Tab, drop []int) {
	for i := range tabs[:cap(tabs)] {
		tabs[:cap(tabs)][i] = tab(-7, -7, "spoiled", "s")
	}
	for i := range drop[:cap(drop)] {
		drop[:cap(drop)][i] = -7
	}
}

// What is handed in is a piece of a longer list: what lies behind its end is neither read nor changed.
func TestRoomBehind(t *testing.T) {
	tabs := append(tables(30, 3), tab(30, 9, "", ""), tab(1, 9, "", ""))
	drop := []int{1, 7, 7, 0, 0}
	whole := full(t)
	room := append(slices.Clone(whole.Tabs), tab(30, 9, "", ""), tab(7, 9, "", ""))
	s := api.State{Tabs: room[:len(whole.Tabs)], Log: whole.Log, Next: whole.Next}
	e := api.Edit{Add: tabs[:3], Drop: drop[:2], Log: 4, Next: 40}
	heldTabs, heldDrop, heldRoom := slices.Clone(tabs), slices.Clone(drop), slices.Clone(room)
	plain := api.Edit{Add: slices.Clone(e.Add), Drop: slices.Clone(e.Drop), Log: 4, Next: 40}
	if err := manifest.Check(e); err != api.OK {
		t.Errorf("Check is %d", err)
	}
	if got, err := manifest.Put(e); got != written(plain) || err != api.OK {
		t.Errorf("Put is %q, %d", got, err)
	}
	want, _ := applied(whole, plain)
	if got, err := manifest.Apply(s, e); !sameState(got, want) || err != api.OK {
		t.Errorf("Apply is %#v, %d, not %#v", got, err, want)
	}
	if got := manifest.Overlap(s, 1, "a", "z"); !slices.Equal(ids(got), []int{9, 7, 6}) {
		t.Errorf("Overlap is %#v", got)
	}
	text := []string{written(adds(2, tab(1, 0, "a", "m"))), "none"}
	if got, err := manifest.Replay(text[:1]); len(got.Tabs) != 1 || err != api.OK || text[1] != "none" {
		t.Errorf("Replay is %#v, %d", got, err)
	}
	if !slices.Equal(tabs, heldTabs) || !slices.Equal(drop, heldDrop) || !slices.Equal(room, heldRoom) {
		t.Error("a list that was handed in is changed")
	}
}

// What is answered shares nothing with what was handed in, nor with what is answered later.
func TestListsAreNew(t *testing.T) {
	e := api.Edit{Add: append(make([]api.Tab, 0, 9), tables(30, 3)...), Drop: append(make([]int, 0, 9), 1, 7), Log: 4, Next: 40}
	first := full(t)
	want, _ := applied(first, e)
	got, _ := manifest.Apply(first, e)
	again, _ := manifest.Apply(first, e)
	spoil(again.Tabs, nil)
	spoil(first.Tabs, nil)
	spoil(e.Add, e.Drop)
	if !sameState(got, want) {
		t.Errorf("the state has become %#v", got)
	}
	// Nothing is done but that the numbers rise.
	same, _ := manifest.Apply(got, api.Edit{Log: 4, Next: 41})
	over := manifest.Overlap(same, 0, "a", "z")
	spoil(same.Tabs, nil)
	if !sameState(got, want) || len(over) == 0 || over[0].Id != 32 {
		t.Errorf("the state has become %#v, what overlaps %#v", got, over)
	}
	spoil(over, nil)
	if !sameState(got, want) {
		t.Errorf("the state has become %#v", got)
	}
	s := written(api.Edit{Add: tables(1, 3), Drop: []int{5, 6}, Next: 9})
	a, _ := manifest.Take(s)
	b, _ := manifest.Take(s)
	spoil(b.Add, b.Drop)
	if !sameEdit(a, api.Edit{Add: tables(1, 3), Drop: []int{5, 6}, Next: 9}) {
		t.Errorf("the edit has become %#v", a)
	}
}

// States that came of no call: each call ends.
func TestAnyState(t *testing.T) {
	states := []api.State{
		{Tabs: make([]api.Tab, 300), Log: -1, Next: -1},
		{Tabs: []api.Tab{tab(1, 0, "a", "b"), tab(1, 0, "a", "b"), tab(1, 1, "a", "b")}, Next: 5},
		{Tabs: []api.Tab{tab(-1, -1, "", ""), tab(math.MaxInt, math.MaxInt, "z", "a"), tab(math.MinInt, math.MinInt, "", of("a", 1000))}},
		{Tabs: []api.Tab{tab(1, 1, "z", "a"), tab(2, 1, "b", "c"), tab(3, 1, "a", "z")}, Log: math.MinInt, Next: math.MinInt},
		{Log: math.MaxInt, Next: math.MaxInt},
		{Log: math.MinInt, Next: math.MinInt},
	}
	for i, s := range states {
		for _, e := range rights() {
			if got, err := manifest.Apply(s, e); err != api.OK && !zeroState(got) {
				t.Errorf("state %d: Apply is %#v, %d", i, got, err)
			}
		}
		for _, e := range wrongs() {
			if got, err := manifest.Apply(s, e); err != api.ErrArg || !zeroState(got) {
				t.Errorf("state %d: Apply is %#v, %d, not ErrArg", i, got, err)
			}
		}
		for level := -1; level < 4; level++ {
			l := manifest.Overlap(s, level, "", of("\xff", 9))
			if !sort.SliceIsSorted(l, func(i, j int) bool { return level > 0 && l[i].Lo < l[j].Lo }) {
				t.Errorf("state %d: what overlaps at level %d is not in order", i, level)
			}
		}
	}
}
