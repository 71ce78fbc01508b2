package table_test

import (
	"encoding/binary"
	"encoding/hex"
	"hash/crc32"
	"math"
	"slices"
	"strconv"
	"strings"
	"testing"

	"sorrel/api"
	"sorrel/table"
)

// The limits, as the chapters say them.
const (
	mostKey     = 64
	mostValue   = 256
	mostEntries = 1 << 12
	mostSeq     = 1<<40 - 1
)

var castagnoli = crc32.MakeTable(crc32.Castagnoli)

// sum is a text's sum, by another build of it.
func sum(s string) uint32 {
	return crc32.Checksum([]byte(s), castagnoli)
}

// fix is a number as four bytes.
func fix(n int) string {
	return string(binary.LittleEndian.AppendUint32(nil, uint32(n)))
}

// sealed is bytes with their sum behind.
func sealed(s string) string {
	return s + fix(int(sum(s)))
}

// number is a number's bytes, by another build of them.
func number(n int) string {
	return string(binary.AppendUvarint(nil, uint64(n)))
}

// text is a text with its length's bytes ahead.
func text(s string) string {
	return number(len(s)) + s
}

// of is so many bytes of one kind.
func of(b string, n int) string {
	return strings.Repeat(b, n)
}

// with is an entry that has a value.
func with(key, value string, seq int) api.Entry {
	return api.Entry{Key: key, Value: value, Seq: seq}
}

// gone is an entry that has none.
func gone(key string, seq int) api.Entry {
	return api.Entry{Key: key, Gone: true, Seq: seq}
}

// blockOf is what layer 9's chapter says of a block's bytes.
func blockOf(l []api.Entry) string {
	s, ahead := number(len(l)), ""
	for _, e := range l {
		same := 0
		for same < len(e.Key) && strings.HasPrefix(ahead, e.Key[:same+1]) {
			same++
		}
		s += number(same) + text(e.Key[same:])
		if e.Gone {
			s += number(2*e.Seq + 1)
		} else {
			s += number(2*e.Seq) + text(e.Value)
		}
		ahead = e.Key
	}
	return sealed(s)
}

// places are what layer 8's chapter says a key's are among n bits.
func places(key string, n int) []int {
	a, b := uint64(sum(key)), uint64(sum(key+"#"))|1
	var l []int
	for i := range uint64(6) {
		l = append(l, int((a+i*b)%uint64(n)))
	}
	return l
}

// bitsOf is what layer 8's chapter says of Make.
func bitsOf(keys []string) string {
	b := make([]byte, max(8, (10*len(keys)+7)/8))
	for _, key := range keys {
		for _, place := range places(key, 8*len(b)) {
			b[place/8] |= 1 << (place % 8)
		}
	}
	return string(b)
}

// has is what layer 8's chapter says of Has.
func has(bits, key string) bool {
	for _, place := range places(key, 8*len(bits)) {
		if bits[place/8]>>(place%8)%2 == 0 {
			return false
		}
	}
	return true
}

// keysOf are the keys of entries, each once, rising.
func keysOf(l []api.Entry) []string {
	m := map[string]bool{}
	for _, e := range l {
		m[e.Key] = true
	}
	var keys []string
	for key := range m {
		keys = append(keys, key)
	}
	slices.Sort(keys)
	return keys
}

// parts are what a table's bytes are made of.
type parts struct {
	blocks []string
	firsts []string // the keys in the foot
	sizes  []int    // in the foot
	count  int      // in the foot
	bits   string
}

// add lays a block of these entries behind the others.
func (p *parts) add(l []api.Entry) {
	s, first := blockOf(l), ""
	if len(l) > 0 {
		first = l[0].Key
	}
	p.blocks = append(p.blocks, s)
	p.firsts = append(p.firsts, first)
	p.sizes = append(p.sizes, len(s))
	p.count++
}

// cut are the parts of entries in blocks of so many.
func cut(l []api.Entry, each int) parts {
	p := parts{bits: bitsOf(keysOf(l))}
	for from := 0; from < len(l); from += each {
		p.add(l[from:min(from+each, len(l))])
	}
	return p
}

// foot is what goes into a table's seal.
func (p *parts) foot() string {
	s := number(p.count)
	for i := range p.firsts {
		s += text(p.firsts[i]) + number(p.sizes[i])
	}
	return s + text(p.bits)
}

// under is a table's bytes with this foot, that is not yet sealed.
func (p *parts) under(foot string) string {
	foot = sealed(foot)
	return strings.Join(p.blocks, "") + foot + fix(len(foot))
}

// bytes are a table's of these parts.
func (p *parts) bytes() string {
	return p.under(p.foot())
}

// written is what the chapter says of a table's bytes, word by word.
func written(l []api.Entry) string {
	p := cut(l, 16)
	return p.bytes()
}

// noise are numbers below n, the same each time.
func noise(seed uint32) func(n int) int {
	return func(n int) int {
		seed = seed*1664525 + 1013904223
		return int(seed>>8) % n
	}
}

// named are keys with numbers behind, so many, rising.
func named(n int) []string {
	var keys []string
	for i := range n {
		keys = append(keys, "key"+strconv.Itoa(1_000_000+i*7))
	}
	return keys
}

// plain are so many entries, each of a key of its own.
func plain(n int) []api.Entry {
	var l []api.Entry
	for i, key := range named(n) {
		l = append(l, with(key, strconv.Itoa(i), i+1))
	}
	return l
}

// mixed are rising keys' entries: of each up to so many, some with values, some without.
func mixed(keys []string, most int) []api.Entry {
	next := noise(uint32(len(keys) + most))
	var l []api.Entry
	for _, key := range keys {
		each := 1 + next(most)
		for i := range each {
			e := with(key, of(string(rune('0'+i%10)), next(5)*next(20)), (each-i)*3+next(3))
			if next(3) == 0 {
				e = gone(key, e.Seq)
			}
			l = append(l, e)
		}
	}
	return l
}

// edges are keys of bytes of all kinds, of beginnings of others, of lengths at the limit.
func edges() []string {
	l := []string{"\x00", "\x00\x00", "\n", "#", "a", "a\x00", "a\xff", "aa", "ab", "abc", "abd", "ac", "b", "\x7f", "\x80", "\xff", "\xff\xff", "\u00e9"}
	for _, b := range []string{"\x00", "a", "\xff"} {
		l = append(l, of(b, 63), of(b, 64), of(b, 63)+"b", of(b, 32)+of("b", 32))
	}
	slices.Sort(l)
	return slices.Compact(l)
}

// runs are entries of keys a, b, c, .. with so many numbers each.
func runs(counts ...int) []api.Entry {
	var l []api.Entry
	for i, n := range counts {
		for seq := n; seq > 0; seq-- {
			l = append(l, with(string(rune('a'+i)), strconv.Itoa(seq), seq))
		}
	}
	return l
}

// lists are entries that may be a table's.
func lists() [][]api.Entry {
	l := [][]api.Entry{
		{with("a", "", 1)},
		{gone("a", 1)},
		{with("a", "x", mostSeq)},
		{gone("a", mostSeq), with("a", "x", mostSeq-1), gone("a", 2), with("a", "", 1)},
		{with(of("\xff", mostKey), of("\xff", mostValue), mostSeq)},
		{with("a", "x", 9), gone("a", 4), with("b", "yy", 2)},
		mixed(edges(), 1), mixed(edges(), 3), mixed(named(30), 2), mixed(named(200), 5),
		runs(1, 16, 1), runs(15, 1, 16), runs(15, 2, 15), runs(16, 16, 16), runs(17, 1), runs(8, 16, 8), runs(1, 31, 32), runs(40), runs(3, 60, 2),
		runs(16), runs(17), runs(33, 5, 90, 1, 1, 1, 20),
	}
	for _, n := range []int{1, 2, 6, 7, 15, 16, 17, 31, 32, 33, 48, 127, 128, 255, 256} {
		l = append(l, plain(n))
	}
	return l
}

// large are entries that may be a table's, as many as may be, and about.
func large() [][]api.Entry {
	return [][]api.Entry{
		plain(2047), plain(2048), plain(2049), plain(mostEntries - 1), plain(mostEntries), plain(mostEntries + 1)[:mostEntries], runs(mostEntries), runs(2000, 1, 2095),
	}
}

// wrongs are entries that may not be.
func wrongs() map[string]api.Entry {
	return map[string]api.Entry{
		"zero":                      {},
		"without a key":             with("", "x", 5),
		"with a key of 65 bytes":    with(of("k", 65), "x", 5),
		"with a value of 257 bytes": with("k", of("v", 257), 5),
		"gone, with a value":        {Key: "k", Value: "x", Gone: true, Seq: 5},
		"of the number 0":           with("k", "x", 0),
		"gone, of the number 0":     gone("k", 0),
		"of the number -1":          with("k", "x", -1),
		"of the least number":       with("k", "x", math.MinInt),
		"of the number 2^40":        with("k", "x", 1<<40),
		"of the greatest number":    gone("k", math.MaxInt),
	}
}

// disordered are lists whose entries may be, but not one behind the other as they stand, also where a block ends.
func disordered() map[string][]api.Entry {
	m := map[string][]api.Entry{}
	for _, at := range []int{1, 15, 16, 17, 31, 32, 39} {
		behind := " behind " + strconv.Itoa(at)
		l := plain(40)
		l[at] = l[at-1]
		m["the same twice"+behind] = l
		l = plain(40)
		l[at], l[at-1] = l[at-1], l[at]
		m["keys that fall"+behind] = l
		l = plain(40)
		l[at].Key, l[at-1].Key = "key1", "key1"
		l[at].Seq, l[at-1].Seq = 5, 4
		m["numbers that rise"+behind] = l
		l = runs(40)
		l[at].Seq = l[at-1].Seq
		m["one number, another value"+behind] = l
		l = runs(40)
		l[at].Seq = l[at-1].Seq + 1
		m["a number above"+behind] = l
	}
	return m
}

// refused are lists that may not be a table's, by what is wrong.
func refused() map[string][]api.Entry {
	m := disordered()
	for name, e := range wrongs() {
		m["alone: "+name] = []api.Entry{e}
		m["first: "+name] = append([]api.Entry{e}, plain(16)...)
		m["seventeenth: "+name] = append(runs(16), e)
		m["midst: "+name] = append(append(runs(3), e), with("z", "", 1))
	}
	m["none"] = nil
	m["an empty list"] = []api.Entry{}
	m["none, with room behind"] = plain(3)[:0]
	m["4097"] = plain(mostEntries + 1)
	m["4097 of one key"] = runs(mostEntries + 1)
	m["8192"] = plain(2 * mostEntries)
	return m
}

// opened is the table of bytes; that they are refused ends the test.
func opened(t *testing.T, s string) *table.Table {
	t.Helper()
	x, err := table.Open(s)
	if err != api.OK || x == nil {
		t.Fatalf("Open of %d bytes (%.60q): error %d", len(s), s, err)
	}
	return x
}

// isNone tells if bytes are taken as a table's.
func isNone(t *testing.T, what, s string) {
	t.Helper()
	if x, err := table.Open(s); x != nil || err != api.ErrTable {
		t.Fatalf("%s: Open of %d bytes (%.80q) has %d entries, error %d", what, len(s), s, x.Len(), err)
	}
}

// everything are all entries of a table.
func everything(x *table.Table) []api.Entry {
	return x.Range(api.Span{})
}

func TestTb1BuildNamed(t *testing.T) {
	letters := []api.Entry{}
	for i := range 17 {
		letters = append(letters, gone(string(rune('a'+i)), 1))
	}
	for _, c := range []struct {
		l    []api.Entry
		want string // worked out beside the program, by the chapters' words
	}{
		{[]api.Entry{with("a", "x", 1)},
			"01000161020178650e66ed" + "0101610b" + "080408102000000102" + "a7b6b402" + "11000000"},
		{[]api.Entry{gone("a", mostSeq)},
			"01000161ffffffffff3f858c9e2b" + "0101610e" + "080408102000000102" + "85b88fea" + "11000000"},
		{[]api.Entry{with("a", "x", 9), gone("a", 4), with("b", "yy", 2)},
			"03000161120178010009000162040279794c9c86f5" + "01016115" + "081409302240008102" + "3e363030" + "11000000"},
		{letters,
			"1000016103000162030001630300016403000165030001660300016703000168030001690300016a0300016b0300016c0300016d0300016e0300016f0300017003a825b098" +
				"0100017103e3348967" + "02" + "016145" + "017109" + "163ccc11f6b200400b98805e56a48dbeac59a508f91193" + "5bb8de28" + "22000000"},
	} {
		if s, err := table.Build(c.l); hex.EncodeToString([]byte(s)) != c.want || err != api.OK {
			t.Errorf("Build of %d entries is %x, %d, not %s", len(c.l), s, err, c.want)
		}
	}
}

func TestTb1BuildAsSaid(t *testing.T) {
	for _, l := range append(lists(), large()...) {
		was := slices.Clone(l)
		if s, err := table.Build(l); s != written(l) || err != api.OK {
			t.Errorf("Build of %d entries is %d bytes, %d", len(l), len(s), err)
		}
		if !slices.Equal(l, was) {
			t.Errorf("Build changed its %d entries", len(l))
		}
	}
}

// At each number of entries there are as many blocks as are needed, and no more.
func TestTb1BuildEachLength(t *testing.T) {
	whole := plain(100)
	for n := 1; n <= len(whole); n++ {
		s, err := table.Build(whole[:n])
		if s != written(slices.Clone(whole[:n])) || err != api.OK {
			t.Errorf("Build of %d entries is %d bytes, %d", n, len(s), err)
		}
		if x := opened(t, s); x.Len() != n || !slices.Equal(everything(x), whole[:n]) {
			t.Errorf("the table of %d entries has %d", n, x.Len())
		}
	}
}

func TestTb1BuildRefuses(t *testing.T) {
	for name, l := range refused() {
		if s, err := table.Build(l); s != "" || err != api.ErrArg {
			t.Errorf("%s: Build is %d bytes, %d", name, len(s), err)
		}
	}
}

func TestTb1OpenAsSaid(t *testing.T) {
	for _, l := range append(lists(), large()...) {
		x := opened(t, written(l))
		if x.Len() != len(l) {
			t.Errorf("Len of %d entries is %d", len(l), x.Len())
		}
		if lo, hi := x.Ends(); lo != l[0].Key || hi != l[len(l)-1].Key {
			t.Errorf("Ends of %d entries are %q and %q", len(l), lo, hi)
		}
		if !slices.Equal(everything(x), l) {
			t.Errorf("the table of %d entries has others", len(l))
		}
	}
}

// A table of the most and greatest entries.
func TestTb1Greatest(t *testing.T) {
	var l []api.Entry
	for i, key := range named(mostEntries) {
		l = append(l, with(key+of("k", mostKey-len(key)), of(string([]byte{byte(i)}), mostValue), mostSeq-i))
	}
	s, err := table.Build(l)
	if err != api.OK || s != written(l) {
		t.Fatalf("Build is %d bytes, %d", len(s), err)
	}
	x := opened(t, s)
	if !slices.Equal(everything(x), l) {
		t.Error("the table has other entries")
	}
	for _, i := range []int{0, 15, 16, 2000, mostEntries - 1} {
		if e, ok := x.Get(l[i].Key, mostSeq); e != l[i] || !ok || !x.May(l[i].Key) {
			t.Errorf("Get of the entry %d is of %q, %t", i, e.Key, ok)
		}
	}
}

// changed are bytes of a table of 40 entries (16, 16 and 8) in which one part is another than it should be.
func changed() map[string]string {
	l := plain(40)
	m := map[string]string{}
	change := func(name string, turn func(p *parts)) {
		p := cut(l, 16)
		turn(&p)
		m[name] = p.bytes()
	}
	swap := func(s []string) { s[0], s[1] = s[1], s[0] }
	change("the first two blocks the other way round", func(p *parts) { swap(p.blocks) })
	change("the first two blocks, and their keys", func(p *parts) { swap(p.blocks); swap(p.firsts); p.sizes[0], p.sizes[1] = p.sizes[1], p.sizes[0] })
	change("the first two keys the other way round", func(p *parts) { swap(p.firsts) })
	change("a block twice", func(p *parts) { p.add(l[32:]) })
	change("an empty block behind", func(p *parts) { p.add(nil) })
	change("a block without bytes behind", func(p *parts) { p.firsts, p.sizes, p.count = append(p.firsts, ""), append(p.sizes, 0), 4 })
	change("a block more in the foot", func(p *parts) { p.firsts, p.sizes, p.count = append(p.firsts, "z"), append(p.sizes, 9), 4 })
	change("a block less in the foot", func(p *parts) { p.firsts, p.sizes, p.count = p.firsts[:2], p.sizes[:2], 2 })
	change("a block less", func(p *parts) { p.blocks = p.blocks[:2] })
	change("no blocks", func(p *parts) { p.blocks = nil })
	change("no blocks, nor in the foot", func(p *parts) { p.blocks, p.firsts, p.sizes, p.count = nil, nil, nil, 0 })
	change("bytes behind the blocks", func(p *parts) { p.blocks = append(p.blocks, "x") })
	change("a block behind that the foot does not have", func(p *parts) { p.blocks = append(p.blocks, blockOf(plain(41)[40:])) })
	change("bytes ahead of the blocks", func(p *parts) { p.blocks[0] = "x" + p.blocks[0] })
	change("bytes between blocks", func(p *parts) { p.blocks[0] += "\x00" })
	change("bytes behind a block, that the foot has", func(p *parts) { p.blocks[0] += "\x00"; p.sizes[0]++ })
	change("a block spoilt", func(p *parts) { p.blocks[1] = "\x00" + p.blocks[1][1:] })
	for i, key := range []string{"", "a", "key100000", "key10000000", "key1000007", "key1000000\x00", of("k", 65), of("k", 1<<12)} {
		change("another key in the foot, "+strconv.Itoa(i), func(p *parts) { p.firsts[0] = key })
		change("another last key in the foot, "+strconv.Itoa(i), func(p *parts) { p.firsts[2] = key })
	}
	for _, n := range []int{-1, 1, 1 << 20} {
		change("another size in the foot, by "+strconv.Itoa(n), func(p *parts) { p.sizes[0] += n })
		change("another last size in the foot, by "+strconv.Itoa(n), func(p *parts) { p.sizes[2] += n })
		change("other sizes in the foot, by "+strconv.Itoa(n), func(p *parts) { p.sizes[0] += n; p.sizes[1] -= n })
	}
	for _, n := range []int{0, 1, 2, 4, 5, 127, 1 << 40, 1 << 62, 1<<62 + 1} {
		change("another count in the foot: "+strconv.Itoa(n), func(p *parts) { p.count = n })
		change("another size in the foot: "+strconv.Itoa(n), func(p *parts) { p.sizes[1] = n })
	}
	bits := bitsOf(keysOf(l))
	for i, s := range []string{"", "\x00", of("\x00", 50), of("\xff", 50), bits[1:], bits[:49], bits + "\x00", bits + bits, string(bits[0]^1) + bits[1:],
		bitsOf(keysOf(l[:39])), bitsOf(keysOf(l[1:])), bitsOf(append(keysOf(l), "more")), bitsOf(append(keysOf(l), "key1000000")), of("\xff", 1<<18)} {
		change("other bits, "+strconv.Itoa(i), func(p *parts) { p.bits = s })
	}
	return m
}

// footed are bytes of a table of 40 entries whose foot is in another form, or at another place.
func footed() map[string]string {
	p := cut(plain(40), 16)
	blocks, foot, count := strings.Join(p.blocks, ""), p.foot(), number(3)
	full := sealed(foot)
	size := fix(len(full))
	longer := strings.Replace(foot, text(p.firsts[1])+number(p.sizes[1]), text(p.firsts[1])+number(p.sizes[1])[:1]+string([]byte{number(p.sizes[1])[1] | 128, 0}), 1)
	return map[string]string{
		"the count in two bytes":              p.under("\x83\x00" + foot[1:]),
		"a key's length in two bytes":         p.under(count + "\x8a\x00" + foot[2:]),
		"a size in three bytes":               p.under(longer),
		"the bits' length in two bytes":       p.under(foot[:len(foot)-51] + "\xb2\x00" + foot[len(foot)-50:]),
		"a byte behind the bits":              p.under(foot + "\x00"),
		"a seal behind the bits":              p.under(full),
		"a byte ahead of the count":           p.under("\x00" + foot),
		"the count alone":                     p.under(count),
		"nothing in the foot":                 p.under(""),
		"no bits":                             p.under(foot[:len(foot)-51]),
		"bits too short":                      p.under(foot[:len(foot)-1]),
		"a key cut off":                       p.under(foot[:5]),
		"a size cut off":                      p.under(foot[:12]),
		"a key too long":                      p.under(count + number(1<<18+1) + of("k", 1<<18+1) + "\x00"),
		"numbers without an end":              p.under(of("\xff", 100)),
		"no seal":                             blocks + foot + fix(len(foot)),
		"no seal, and the size of one":        blocks + foot + size,
		"the seal of the whole":               blocks + foot + fix(int(sum(blocks+foot))) + size,
		"the seal of foot and size":           blocks + foot + fix(int(sum(foot+size))) + size,
		"the seal the highest byte first":     blocks + foot + string(binary.BigEndian.AppendUint32(nil, sum(foot))) + size,
		"a seal of zeros":                     blocks + foot + "\x00\x00\x00\x00" + size,
		"no size":                             blocks + full,
		"the size as a number's bytes":        blocks + full + number(len(full)),
		"the size without the seal":           blocks + full + fix(len(full)-4),
		"the size with its own bytes":         blocks + full + fix(len(full)+4),
		"the size of all":                     blocks + full + fix(len(blocks)+len(full)),
		"the size of all, and one more":       blocks + full + fix(len(blocks)+len(full)+1),
		"the size of all, with its own bytes": blocks + full + fix(len(blocks)+len(full)+4),
		"the size 0":                          blocks + full + fix(0),
		"the greatest size":                   blocks + full + fix(1<<32-1),
		"the size 2^31":                       blocks + full + fix(1<<31),
		"the size the highest byte first":     blocks + full + string(binary.BigEndian.AppendUint32(nil, uint32(len(full)))),
		"the size sealed":                     blocks + full + sealed(size),
		"the size twice":                      blocks + full + size + size,
		"the foot twice":                      blocks + full + size + full + size,
		"the foot twice, one size":            blocks + full + full + size,
		"the foot alone":                      full + size,
		"the foot ahead of the blocks":        full + blocks + size,
		"the size ahead of the foot":          blocks + size + full,
		"a byte behind the foot":              blocks + full + "\x00" + size,
		"a byte behind the foot, counted":     blocks + full + "\x00" + fix(len(full)+1),
		"the blocks alone":                    blocks,
		"a block alone":                       p.blocks[0],
		"the table twice":                     blocks + full + size + blocks + full + size,
		"the whole sealed":                    sealed(blocks + full + size),
		"a byte ahead":                        "x" + blocks + full + size,
		"a byte behind":                       blocks + full + size + "\x00",
		"a newline behind":                    blocks + full + size + "\n",
	}
}

// otherwise are bytes of entries that are written as a table's all the same, or in other blocks.
func otherwise() map[string]string {
	m := map[string]string{}
	lay := func(name string, counts ...int) {
		n := 0
		for _, count := range counts {
			n += count
		}
		l := plain(n)
		p := parts{bits: bitsOf(keysOf(l))}
		for _, count := range counts {
			p.add(l[:count])
			l = l[count:]
		}
		m[name] = p.bytes()
	}
	lay("no blocks")
	lay("an empty block", 0)
	lay("an empty block ahead", 0, 3)
	lay("an empty block behind", 3, 0)
	lay("an empty block behind 16", 16, 0)
	lay("an empty block in the midst", 16, 0, 5)
	lay("17 in a block", 17)
	lay("32 in a block", 32)
	lay("16 in two", 8, 8)
	lay("two in two", 1, 1)
	lay("17 as 1 and 16", 1, 16)
	lay("31 as 15 and 16", 15, 16)
	lay("33 as 17 and 16", 17, 16)
	lay("33 as 16 and 17", 16, 17)
	lay("40 as 16, 8 and 16", 16, 8, 16)
	lay("40 as 16, 15, 9", 16, 15, 9)
	lay("4096 in one", mostEntries)
	for name, l := range refused() {
		if slices.ContainsFunc(l, func(e api.Entry) bool { return e.Seq < 0 || e.Seq >= 1<<61 || e.Gone && e.Value != "" }) {
			continue // there is no way to write these
		}
		m["written all the same: "+name] = written(l)
	}
	return m
}

func TestTb1OpenRefuses(t *testing.T) {
	for _, m := range []map[string]string{changed(), footed(), otherwise()} {
		for name, s := range m {
			isNone(t, name, s)
		}
	}
	p := cut(plain(40), 16)
	if s := p.bytes(); s != written(plain(40)) || opened(t, s).Len() != 40 {
		t.Error("the test's own table is none")
	}
}

func TestTb1OpenRefusesShort(t *testing.T) {
	for _, s := range []string{"", "\x00", "\x00\x00", "\x00\x00\x00", "\x00\x00\x00\x00", "\x01\x00\x00\x00", "\xff\xff\xff\xff", "\x00\x00\x00\x00\x00", "\x00\x01\x00\x00\x00",
		"\x00\x04\x00\x00\x00", "\x00\x05\x00\x00\x00", sealed(""), sealed("\x00"), sealed("\x00") + fix(5), sealed("") + fix(4), sealed("\x00\x00") + fix(6), sealed("\x00"+text(of("\x00", 8))) + fix(14),
		"123456789", of("\n", 100), of("\xff", 100), of("\x00", 100), of("\x00", 1<<20)} {
		isNone(t, "no table", s)
	}
	for i := range 256 {
		isNone(t, "one byte", string([]byte{byte(i)}))
		isNone(t, "five bytes", string([]byte{byte(i), 1, 0, 0, 0}))
	}
}

// Of a small table's bytes with one other byte, sealed anew, just those are a table's that some entry is written as.
func TestTb1OpenOfAllNear(t *testing.T) {
	tables := map[string]api.Entry{}
	for value := range 256 {
		for seq := 1; seq < 64; seq++ {
			e := with("a", string([]byte{byte(value)}), seq)
			tables[written([]api.Entry{e})] = e
		}
	}
	body, foot := "\x01\x00\x01a\x02\x01x", "\x01\x01a\x0b"+text(bitsOf([]string{"a"}))
	there := 0
	try := func(body, foot string) {
		p := parts{blocks: []string{sealed(body)}}
		s := p.under(foot)
		if e, ok := tables[s]; ok {
			if x := opened(t, s); !slices.Equal(everything(x), []api.Entry{e}) {
				t.Fatalf("Open(%q) has other entries", s)
			}
			there++
			return
		}
		isNone(t, "near", s)
	}
	for b := range 256 {
		one := string([]byte{byte(b)})
		for i := range body {
			try(body[:i]+one+body[i+1:], foot)
			try(body[:i]+one+body[i:], foot)
		}
		for i := range foot {
			try(body, foot[:i]+one+foot[i+1:])
			try(body, foot[:i]+one+foot[i:])
		}
		try(body+one, foot)
		try(body, foot+one)
	}
	for i := range body {
		try(body[:i]+body[i+1:], foot)
	}
	for i := range foot {
		try(body, foot[:i]+foot[i+1:])
	}
	if there < 256+63 {
		t.Errorf("only %d are tables", there)
	}
}

func TestTb1CutAnywhere(t *testing.T) {
	for _, l := range [][]api.Entry{plain(1), plain(16), plain(17), plain(40), runs(3, 60, 2), mixed(edges(), 3)} {
		s := written(l)
		for i := range s {
			isNone(t, "the end cut off", s[:i])
			if i > 0 {
				isNone(t, "the beginning cut off", s[i:])
			}
			if i < len(s)-1 {
				isNone(t, "a byte cut out", s[:i]+s[i+1:])
			}
		}
	}
}

// turns are ways to turn one to four bytes in a row, each of them at least one bit.
func turns() []string {
	l := []string{"\x78\x3b\xf6\x82"} // the sum's own bits
	for b := 1; b < 256; b++ {
		l = append(l, string([]byte{byte(b)}))
	}
	next := noise(1)
	for n := 2; n <= 4; n++ {
		for range 40 {
			b := make([]byte, n)
			for i := range b {
				b[i] = byte(next(256))
			}
			b[0], b[n-1] = b[0]|1<<next(8), b[n-1]|1<<next(8)
			l = append(l, string(b))
		}
	}
	return l
}

// With other bytes in them, wherever, they are no table's.
func TestTb1OtherBytes(t *testing.T) {
	for _, l := range [][]api.Entry{plain(1), plain(17), runs(3, 40, 2)} {
		s := written(l)
		for _, turn := range turns() {
			for from := 0; from+len(turn) <= len(s); from++ {
				bad := []byte(s)
				for i := range len(turn) {
					bad[from+i] ^= turn[i]
				}
				isNone(t, strconv.Itoa(len(turn))+" bytes turned at "+strconv.Itoa(from), string(bad))
			}
		}
	}
}

// What lies behind a piece's end is not read.
func TestTb1OpenOfPieces(t *testing.T) {
	a, b := []api.Entry{with("a", "x", 9), gone("a", 4)}, []api.Entry{gone("b", 1)}
	whole := written(a) + written(b) + written(a)
	found := map[string]int{}
	for i := range whole {
		for j := i; j <= len(whole); j++ {
			if x, err := table.Open(whole[i:j]); err == api.OK {
				found[whole[i:j]]++
				if written(everything(x)) != whole[i:j] {
					t.Errorf("Open([%d:%d]) has %d entries", i, j, x.Len())
				}
			}
		}
	}
	if len(found) != 2 || found[written(a)] != 2 || found[written(b)] != 1 {
		t.Errorf("%d pieces are tables", len(found))
	}
}

// Neither the room behind a list's end nor the list itself is kept, or changed.
func TestTb1RoomBehind(t *testing.T) {
	whole := append(plain(20), api.Entry{}, with("a", "wrong", 1))
	was := slices.Clone(whole)
	s, err := table.Build(whole[:20])
	if s != written(plain(20)) || err != api.OK {
		t.Errorf("Build is %d bytes, %d", len(s), err)
	}
	if !slices.Equal(whole, was) {
		t.Error("Build changed entries")
	}
	for i := range whole {
		whole[i] = with("q", "q", 1)
	}
	if s != written(plain(20)) {
		t.Error("the bytes changed with the entries")
	}
}

// Different entries have different bytes, the same ones the same.
func TestTb1BytesAreOnes(t *testing.T) {
	texts := map[string]int{}
	for i, l := range append(lists(), large()...) {
		s, _ := table.Build(l)
		if again, _ := table.Build(slices.Clone(l)); again != s {
			t.Errorf("the list %d has bytes of two kinds", i)
		}
		if j, ok := texts[s]; ok && !slices.Equal(l, append(lists(), large()...)[j]) {
			t.Errorf("the lists %d and %d have the same bytes", i, j)
		}
		texts[s] = i
	}
}

// asked are keys, and texts that are none, that tables are asked for.
func asked(l []api.Entry) []string {
	keys := append(edges(), "", "c", "d", "z", "key", "key1000000", "key1000003", "key1000007", "key1001400", "key2", of("a", 65), of("\xff", 65), of("k", 1000))
	for _, e := range l {
		keys = append(keys, e.Key, e.Key+"\x00", e.Key[:len(e.Key)-1])
	}
	slices.Sort(keys)
	return slices.Compact(keys)
}

func TestTb2May(t *testing.T) {
	yes, no := 0, 0
	for _, l := range append(lists(), plain(mostEntries)) {
		x, bits := opened(t, written(l)), bitsOf(keysOf(l))
		for _, key := range asked(l[:min(len(l), 100)]) {
			got := x.May(key)
			if got != has(bits, key) {
				t.Fatalf("May(%.12q) of %d entries is %t", key, len(l), got)
			}
			if got {
				yes++
			} else {
				no++
			}
		}
	}
	if yes < 500 || no < 500 {
		t.Errorf("%d were true, %d false: too few of a kind are tried", yes, no)
	}
}

// found is what the chapters say of Get, word by word.
func found(l []api.Entry, key string, at int) (api.Entry, bool) {
	for _, e := range l {
		if e.Key == key && e.Seq <= at {
			return e, true
		}
	}
	return api.Entry{}, false
}

func TestTb2GetNamed(t *testing.T) {
	l := []api.Entry{with("a", "x", 9), gone("a", 4), with("a", "y", 2), with("b", "", 7), gone("c", 1)}
	x := opened(t, written(l))
	for _, c := range []struct {
		key  string
		at   int
		want int // its place; -1: none
	}{
		{"a", math.MaxInt, 0}, {"a", 10, 0}, {"a", 9, 0}, {"a", 8, 1}, {"a", 4, 1}, {"a", 3, 2}, {"a", 2, 2},
		{"a", 1, -1}, {"a", 0, -1}, {"a", -1, -1}, {"a", math.MinInt, -1},
		{"b", 7, 3}, {"b", 6, -1}, {"c", 1, 4}, {"c", mostSeq, 4}, {"c", 0, -1},
		{"", 9, -1}, {"A", 9, -1}, {"a\x00", 9, -1}, {"aa", 9, -1}, {"ba", 9, -1}, {"d", 9, -1}, {"\xff", 9, -1}, {of("a", 65), 9, -1},
	} {
		want, there := api.Entry{}, c.want >= 0
		if there {
			want = l[c.want]
		}
		if e, ok := x.Get(c.key, c.at); e != want || ok != there {
			t.Errorf("Get(%.9q, %d) is %v, %t", c.key, c.at, e, ok)
		}
	}
}

func TestTb2GetAsSaid(t *testing.T) {
	for _, l := range append(lists(), runs(20, 100, 20)) {
		x := opened(t, written(l))
		for _, key := range asked(l) {
			for _, at := range []int{math.MinInt, -1, 0, 1, 2, 3, 4, 5, 6, 7, 8, 9, 10, 15, 16, 17, 20, 60, 120, mostSeq - 1, mostSeq, mostSeq + 1, math.MaxInt} {
				want, there := found(l, key, at)
				if e, ok := x.Get(key, at); e != want || ok != there {
					t.Fatalf("Get(%.9q, %d) of %d entries is %v, %t", key, at, len(l), e, ok)
				}
			}
		}
	}
}

// Each entry is found by its own number, and by all up to the one ahead, whatever block it stands in.
func TestTb2GetEach(t *testing.T) {
	for _, l := range append(lists(), large()...) {
		x := opened(t, written(l))
		for i, e := range l {
			upto := mostSeq
			if i > 0 && l[i-1].Key == e.Key {
				upto = l[i-1].Seq - 1
			}
			for _, at := range []int{e.Seq, upto} {
				if got, ok := x.Get(e.Key, at); got != e || !ok {
					t.Fatalf("Get(%.9q, %d) of %d entries is %v, %t", e.Key, at, len(l), got, ok)
				}
			}
		}
	}
}

// clipped is what layer 4's chapter says of Clip, word by word.
func clipped(l []api.Entry, x api.Span) []api.Entry {
	if len(x.Lo) > mostKey || len(x.Hi) > mostKey || x.Hi != "" && x.Lo >= x.Hi {
		return nil
	}
	var within []api.Entry
	for _, e := range l {
		if e.Key >= x.Lo && (x.Hi == "" || e.Key < x.Hi) {
			within = append(within, e)
		}
	}
	return within
}

func TestTb2RangeNamed(t *testing.T) {
	l := []api.Entry{with("a", "x", 9), gone("a", 4), with("b", "", 7), with("ba", "y", 7), gone("c", 1)}
	x := opened(t, written(l))
	for _, c := range []struct {
		lo, hi   string
		from, to int
	}{
		{"", "", 0, 5}, {"a", "", 0, 5}, {"b", "", 2, 5}, {"c", "", 4, 5}, {"d", "", 5, 5}, {"bb", "", 4, 5},
		{"", "a", 0, 0}, {"", "a\x00", 0, 2}, {"", "b", 0, 2}, {"", "c", 0, 4}, {"", "d", 0, 5}, {"a", "b", 0, 2}, {"a\x00", "c", 2, 4},
		{"b", "ba", 2, 3}, {"b", "b\x00", 2, 3}, {"0", "1", 0, 0}, {"x", "y", 0, 0},
		{"b", "b", 0, 0}, {"c", "a", 0, 0}, {"z", "a", 0, 0}, {"a", of("z", 64), 0, 5}, {"a", of("z", 65), 0, 0}, {of("a", 64), "", 2, 5}, {of("a", 65), "", 0, 0},
	} {
		if got := x.Range(api.Span{Lo: c.lo, Hi: c.hi}); !slices.Equal(got, l[c.from:c.to]) {
			t.Errorf("Range(%.9q, %.9q) is %v", c.lo, c.hi, got)
		}
	}
}

func TestTb2RangeAsSaid(t *testing.T) {
	for _, l := range [][]api.Entry{plain(1), plain(17), plain(33), mixed(edges(), 3), runs(15, 2, 15), runs(3, 60, 2), mixed(named(30), 2)} {
		x := opened(t, written(l))
		keys := asked(l[:min(len(l), 30)])
		for _, lo := range keys {
			for _, hi := range keys {
				r := api.Span{Lo: lo, Hi: hi}
				if got, want := x.Range(r), clipped(l, r); !slices.Equal(got, want) {
					t.Fatalf("Range(%.9q, %.9q) of %d entries has %d, not %d", lo, hi, len(l), len(got), len(want))
				}
			}
		}
	}
}

// chunked is what the chapter says of Chunk, word by word.
func chunked(l []api.Entry, from string, most int) ([]api.Entry, string) {
	var left []api.Entry
	for _, e := range l {
		if e.Key >= from {
			left = append(left, e)
		}
	}
	if most < 1 {
		most = 1
	}
	if most > len(left) {
		most = len(left)
	}
	for n := most; n < len(left); n++ {
		if left[n].Key != left[n-1].Key {
			return left[:n], left[n].Key
		}
	}
	return left, ""
}

func TestTb2ChunkNamed(t *testing.T) {
	l := []api.Entry{with("a", "x", 9), gone("a", 4), with("a", "y", 2), with("b", "", 7), gone("c", 2), with("c", "z", 1)}
	x := opened(t, written(l))
	for _, c := range []struct {
		from     string
		most     int
		at, upto int
		next     string
	}{
		{"", 0, 0, 3, "b"}, {"", 1, 0, 3, "b"}, {"", 2, 0, 3, "b"}, {"", 3, 0, 3, "b"}, {"", 4, 0, 4, "c"}, {"", 5, 0, 6, ""}, {"", 6, 0, 6, ""}, {"", 7, 0, 6, ""},
		{"", -1, 0, 3, "b"}, {"", math.MinInt, 0, 3, "b"}, {"", math.MaxInt, 0, 6, ""},
		{"a", 1, 0, 3, "b"}, {"A", 4, 0, 4, "c"}, {"a\x00", 1, 3, 4, "c"}, {"b", 0, 3, 4, "c"}, {"b", 1, 3, 4, "c"}, {"b", 2, 3, 6, ""},
		{"bb", 1, 4, 6, ""}, {"c", 1, 4, 6, ""}, {"c", 2, 4, 6, ""}, {"c", math.MaxInt, 4, 6, ""},
		{"c\x00", 1, 6, 6, ""}, {"d", 1, 6, 6, ""}, {"d", 0, 6, 6, ""}, {"\xff", math.MaxInt, 6, 6, ""}, {"\xff", math.MinInt, 6, 6, ""},
		{of("a", 65), 1, 3, 4, "c"}, {of("\xff", 1000), 1, 6, 6, ""},
	} {
		if got, next := x.Chunk(c.from, c.most); !slices.Equal(got, l[c.at:c.upto]) || next != c.next {
			t.Errorf("Chunk(%.9q, %d) is %v, %q", c.from, c.most, got, next)
		}
	}
}

func TestTb2ChunkAsSaid(t *testing.T) {
	for _, l := range append(lists(), plain(300)) {
		x := opened(t, written(l))
		for _, from := range asked(l[:min(len(l), 60)]) {
			for _, most := range []int{math.MinInt, -1, 0, 1, 2, 3, 5, 14, 15, 16, 17, 18, 31, 32, 33, 60, len(l) - 1, len(l), len(l) + 1, mostEntries, math.MaxInt} {
				want, next := chunked(l, from, most)
				if got, key := x.Chunk(from, most); !slices.Equal(got, want) || key != next {
					t.Fatalf("Chunk(%.9q, %d) of %d entries has %d, %q, not %d, %q", from, most, len(l), len(got), key, len(want), next)
				}
			}
		}
	}
}

// What May says no to is not there, as of no number, in no range, and in no chunk.
func TestTb3MayNo(t *testing.T) {
	no := 0
	for _, l := range append(lists(), plain(2000)) {
		x := opened(t, written(l))
		for _, e := range l {
			if !x.May(e.Key) {
				t.Fatalf("May(%.9q), that is there, is false", e.Key)
			}
		}
		for _, key := range asked(l) {
			if x.May(key) {
				continue
			}
			no++
			e, ok := x.Get(key, math.MaxInt)
			part, _ := x.Chunk(key, 1)
			if ok || len(part) > 0 && part[0].Key == key || len(x.Range(api.Span{Lo: key, Hi: key + "\x00"})) > 0 {
				t.Fatalf("May(%.9q) is false, and it is there: %v", key, e)
			}
		}
	}
	if no < 1000 {
		t.Errorf("only %d keys are told apart", no)
	}
}

// Most keys that are not there are told apart.
func TestTb3MostOthers(t *testing.T) {
	x, wrong := opened(t, written(plain(1000))), 0
	for i := range 1000 {
		if x.May("other" + strconv.Itoa(i)) {
			wrong++
		}
	}
	if wrong > 30 {
		t.Errorf("%d of 1000 keys that are not there may be", wrong)
	}
}

func TestTb3ChunksAreAll(t *testing.T) {
	for _, l := range append(lists(), large()...) {
		x := opened(t, written(l))
		for _, most := range []int{-1, 0, 1, 2, 3, 15, 16, 17, 100, len(l), math.MaxInt} {
			if len(l) > 1000 && most < 15 {
				continue
			}
			var all []api.Entry
			from, again := "", true
			for again {
				part, next := x.Chunk(from, most)
				if len(part) == 0 || next != "" && (len(part) < most || next <= part[len(part)-1].Key) {
					t.Fatalf("Chunk(%q, %d) of %d entries has %d, and %q", from, most, len(l), len(part), next)
				}
				all = append(all, part...)
				from, again = next, next != ""
			}
			if !slices.Equal(all, l) {
				t.Errorf("the chunks of %d have %d of %d entries", most, len(all), len(l))
			}
		}
	}
}

// Open of Build are the entries, and Build of them are the bytes.
func TestTb3OpenOfBuild(t *testing.T) {
	for _, l := range append(lists(), large()...) {
		s, err := table.Build(l)
		if err != api.OK {
			t.Fatalf("Build of %d entries: error %d", len(l), err)
		}
		x := opened(t, s)
		if got := everything(x); !slices.Equal(got, l) {
			t.Errorf("the table of %d entries has %d others", len(l), len(got))
		}
		if again, err := table.Build(everything(x)); again != s || err != api.OK {
			t.Errorf("Build of a table's %d entries: error %d", len(l), err)
		}
	}
}

// notGiven tells what a table that Open did not give answers, where it is anything.
func notGiven(t *testing.T, x *table.Table) {
	t.Helper()
	lo, hi := x.Ends()
	if x.Len() != 0 || lo != "" || hi != "" {
		t.Errorf("Len is %d, Ends are %q and %q", x.Len(), lo, hi)
	}
	for _, key := range []string{"", "a", "b", "key1000000", of("a", 65)} {
		e, ok := x.Get(key, mostSeq)
		if x.May(key) || ok || e != (api.Entry{}) {
			t.Errorf("May(%.9q) is %t, Get is %v, %t", key, x.May(key), e, ok)
		}
		for _, most := range []int{math.MinInt, 0, 1, 9, math.MaxInt} {
			if l, next := x.Chunk(key, most); len(l) != 0 || next != "" {
				t.Errorf("Chunk(%.9q, %d) has %d, %q", key, most, len(l), next)
			}
		}
		if l := x.Range(api.Span{Lo: key}); len(l) != 0 {
			t.Errorf("Range from %.9q has %d", key, len(l))
		}
	}
}

func TestTb2NotGiven(t *testing.T) {
	notGiven(t, nil)
	notGiven(t, &table.Table{})
	notGiven(t, new(table.Table))
	x := opened(t, written(plain(20)))
	copied := *x
	notGiven(t, &copied)
	if x.Len() != 20 || !x.May("key1000000") {
		t.Error("the table changed with its copy")
	}
	bad, _ := table.Open("bad")
	notGiven(t, bad)
}

// Lists that are answered are new: one that is changed leaves the table as it is.
func TestTb2ListsAreNew(t *testing.T) {
	want := runs(3, 20, 5)
	x := opened(t, written(want))
	spoil := func(l []api.Entry) {
		l = l[:cap(l)]
		for i := range l {
			l[i] = with("q", "q", 1)
		}
	}
	for range 2 {
		spoil(x.Range(api.Span{}))
		spoil(x.Range(api.Span{Lo: "b"}))
		for _, most := range []int{1, 4, 28, 99} {
			l, _ := x.Chunk("", most)
			spoil(l)
			l, _ = x.Chunk("b", most)
			spoil(l)
		}
	}
	if !slices.Equal(everything(x), want) {
		t.Error("the table's entries changed")
	}
	if e, ok := x.Get("b", 7); e != with("b", "7", 7) || !ok {
		t.Errorf("Get is %v, %t", e, ok)
	}
}

// Tables are each their own.
func TestTb1TablesApart(t *testing.T) {
	var tables []*table.Table
	for _, l := range lists() {
		tables = append(tables, opened(t, written(l)))
	}
	for i, l := range lists() {
		if !slices.Equal(everything(tables[i]), l) {
			t.Errorf("the table %d has other entries", i)
		}
	}
}
