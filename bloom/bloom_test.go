package bloom_test

import (
	"encoding/hex"
	"hash/crc32"
	"math"
	"math/bits"
	"slices"
	"strconv"
	"strings"
	"testing"

	"sorrel/api"
	"sorrel/bloom"
)

const most = 1 << 12 // of keys

var castagnoli = crc32.MakeTable(crc32.Castagnoli)

// sum is a text's sum, by another build of it.
func sum(s string) uint64 {
	return uint64(crc32.Checksum([]byte(s), castagnoli))
}

// places are what the chapter says a key's are among n bits, word by word.
func places(key string, n int) []int {
	a, b := sum(key), sum(key+string([]byte{35}))
	if b%2 == 0 {
		b++
	}
	var l []int
	for i := uint64(0); i <= 5; i++ {
		l = append(l, int((a+i*b)%uint64(n)))
	}
	return l
}

// size is what the chapter says of Size, word by word.
func size(keys int) int {
	if keys < 1 {
		return 64
	}
	n := 8
	for n*8 < 10*min(keys, most) {
		n++
	}
	return n * 8
}

// filled are n bits, as bytes, of which these are set.
func filled(n int, places ...int) string {
	b := make([]byte, n/8)
	for _, place := range places {
		for bit := range 8 {
			if place%8 == bit {
				b[place/8] |= []byte{1, 2, 4, 8, 16, 32, 64, 128}[bit]
			}
		}
	}
	return string(b)
}

// made is what the chapter says of Make, word by word.
func made(keys []string) string {
	n := size(len(keys))
	var all []int
	for _, key := range keys {
		all = append(all, places(key, n)...)
	}
	return filled(n, all...)
}

// has is what the chapter says of Has, word by word.
func has(s, key string) bool {
	if s == "" {
		return true
	}
	for _, place := range places(key, len(s)*8) {
		if s[place/8]>>(place%8)%2 == 0 {
			return false
		}
	}
	return true
}

// edges are keys that are easily taken one for the other, or are none that a range has.
func edges() []string {
	return []string{
		"", "\x00", "\x00\x00", "#", "##", "\n", " ", "0", "9", "10", "A", "a", "a#", "a##", "#a", "a\x00", "aa", "ab", "b",
		strings.Repeat("b", 63), strings.Repeat("b", 64), strings.Repeat("b", 65), strings.Repeat("b", 1<<12),
		"123456789", "e\u0301", "\u00e9", "\ufffd", "\U0001f600", "\x7f", "\x80", "\xff", "\xff\x00", strings.Repeat("\xff", 64),
	}
}

// many are so many keys, the same each time.
func many(n int) []string {
	var keys []string
	for i := range n {
		keys = append(keys, "key"+strconv.Itoa(i*7919))
	}
	return keys
}

// ones is how many bits are set.
func ones(s string) int {
	n := 0
	for i := range len(s) {
		n += bits.OnesCount8(s[i])
	}
	return n
}

// makeOf are the bits of keys; that they are refused ends the test.
func makeOf(t *testing.T, keys []string) string {
	t.Helper()
	s, err := bloom.Make(keys)
	if err != api.OK {
		t.Fatalf("Make of %d keys: error %d", len(keys), err)
	}
	return s
}

// asSaid are the bits of keys; it tells those that are not what the chapter says.
func asSaid(t *testing.T, keys []string) string {
	t.Helper()
	s := makeOf(t, keys)
	if want := made(keys); s != want {
		t.Errorf("Make of %d keys (%.40q): %x, not %x", len(keys), keys[:min(3, len(keys))], s, want)
	}
	return s
}

func TestBl1SizeNamed(t *testing.T) {
	for keys, want := range map[int]int{
		math.MinInt: 64, math.MinInt + 1: 64, math.MinInt/10 - 100: 64, math.MinInt / 5: 64, math.MinInt32: 64, -4097: 64, -7: 64, -1: 64, 0: 64,
		1: 64, 5: 64, 6: 64, 7: 72, 8: 80, 9: 96, 10: 104, 11: 112, 12: 120, 13: 136, 16: 160, 17: 176,
		100: 1000, 101: 1016, 4095: 40952, 4096: 40960,
		4097: 40960, 4098: 40960, 8192: 40960, 1 << 31: 40960, 1 << 61: 40960, 1 << 62: 40960, math.MaxInt / 10: 40960, math.MaxInt: 40960,
	} {
		if got := bloom.Size(keys); got != want {
			t.Errorf("Size(%d) is %d, not %d", keys, got, want)
		}
	}
}

func TestBl1SizeAsSaid(t *testing.T) {
	for keys := -20; keys < most+20; keys++ {
		if got, want := bloom.Size(keys), size(keys); got != want {
			t.Errorf("Size(%d) is %d, not %d", keys, got, want)
		}
	}
}

func TestBl1MakeOfNone(t *testing.T) {
	for _, keys := range [][]string{nil, {}, many(3)[:0]} {
		if s, err := bloom.Make(keys); s != strings.Repeat("\x00", 8) || err != api.OK {
			t.Errorf("Make of none: %x, error %d", s, err)
		}
	}
}

// Bits that were worked out beside the program, by the chapter's words.
func TestBl1MakeNamed(t *testing.T) {
	for _, c := range []struct {
		keys []string
		bits string
	}{
		{[]string{""}, "0100000080104208"},
		{[]string{"a"}, "0408102000000102"},
		{[]string{"b"}, "1001200240008000"}, // of the second sum the lowest bit was not set
		{[]string{"a", "b"}, "1409302240008102"},
		{[]string{"a", "b", "c", "d", "e", "f", "g"}, "0db93272089da9c7c4"},
		{[]string{strings.Repeat("\xff", 64)}, "000000007e000000"},
		{slices.Repeat([]string{"123456789"}, 20), "00011000000000200000000000000400000000088000000000"},
	} {
		if s := makeOf(t, c.keys); hex.EncodeToString([]byte(s)) != c.bits {
			t.Errorf("Make of %.9q: %x, not %s", c.keys, s, c.bits)
		}
	}
}

func TestBl1MakeOfEachKey(t *testing.T) {
	for _, key := range append(edges(), many(300)...) {
		asSaid(t, []string{key})
		asSaid(t, slices.Repeat([]string{key}, 7)) // 72 bits: no power of two
	}
}

func TestBl1MakeOfMany(t *testing.T) {
	asSaid(t, edges())
	for _, n := range []int{2, 3, 5, 6, 7, 8, 9, 15, 16, 17, 63, 64, 65, 100, 255, 256, 257, 1000, 4094, 4095, 4096} {
		s := asSaid(t, many(n))
		if len(s)*8 != bloom.Size(n) {
			t.Errorf("Make of %d keys has %d bytes, and Size is %d", n, len(s), bloom.Size(n))
		}
	}
}

// How many keys there are counts each as often as it stands there; where it stands does not count.
func TestBl1MakeOfSameKeys(t *testing.T) {
	keys := many(40)
	want := asSaid(t, keys)
	turned := slices.Clone(keys)
	slices.Reverse(turned)
	if asSaid(t, turned) != want {
		t.Error("Make of keys the other way round has other bits")
	}
	twice := asSaid(t, append(slices.Clone(keys), keys...))
	if len(twice) != 100 {
		t.Errorf("Make of 40 keys, twice each, has %d bytes", len(twice))
	}
	asSaid(t, slices.Repeat([]string{"a"}, most))
	asSaid(t, slices.Repeat([]string{""}, 100))
}

func TestBl1MakeOfTooMany(t *testing.T) {
	for _, keys := range [][]string{
		many(most + 1), many(2 * most), make([]string, most+1), make([]string, 1<<20), slices.Repeat([]string{"a"}, most+1),
	} {
		if s, err := bloom.Make(keys); s != "" || err != api.ErrFull {
			t.Errorf("Make of %d keys: %d bytes, error %d", len(keys), len(s), err)
		}
	}
	makeOf(t, many(most))
	makeOf(t, many(2 * most)[:most])
}

// What is handed in is not changed, nor read behind its end.
func TestBl1MakeLeavesKeys(t *testing.T) {
	keys := many(60)
	was := slices.Clone(keys)
	for n := range keys {
		if makeOf(t, keys[:n]) != makeOf(t, slices.Clone(keys[:n])) {
			t.Errorf("Make of the first %d keys hangs on those behind", n)
		}
	}
	if !slices.Equal(keys, was) {
		t.Error("Make changed its keys")
	}
	s := makeOf(t, keys)
	for i := range keys {
		keys[i] = "other"
	}
	if s != made(was) {
		t.Error("bits that were made changed with the keys")
	}
}

func TestBl2HasOfNone(t *testing.T) {
	for _, key := range edges() {
		if !bloom.Has("", key) {
			t.Errorf("Has of no bits, and %.9q, is false", key)
		}
		if bloom.Has(makeOf(t, nil), key) {
			t.Errorf("Has of bits of no keys, and %.9q, is true", key)
		}
	}
}

// lengths are of bits as bytes: those that Make gives, and others.
func lengths() []int {
	l := []int{63, 64, 65, 100, 125, 255, 256, 257, 1000, 5119, 5120, 5121, 1 << 16, 1<<20 + 1}
	for n := 1; n <= 40; n++ {
		l = append(l, n)
	}
	return l
}

// Just a key's places make it be there, each one of them, and no others.
func TestBl2HasEachPlace(t *testing.T) {
	for _, n := range lengths() {
		for _, key := range edges() {
			l := places(key, n*8)
			if !bloom.Has(filled(n*8, l...), key) {
				t.Errorf("Has(%d bytes with all places, %.9q) is false", n, key)
			}
			for _, place := range l {
				without := slices.DeleteFunc(slices.Clone(l), func(p int) bool { return p == place })
				if bloom.Has(filled(n*8, without...), key) {
					t.Errorf("Has(%d bytes without the place %d, %.9q) is true", n, place, key)
				}
			}
		}
	}
}

// All other bits do not make a key be there when one of its places is missing.
func TestBl2HasAllBut(t *testing.T) {
	for _, n := range []int{1, 2, 3, 8, 9, 13, 64, 125} {
		for _, key := range edges() {
			full := []byte(strings.Repeat("\xff", n))
			if !bloom.Has(string(full), key) {
				t.Errorf("Has(%d full bytes, %.9q) is false", n, key)
			}
			l := places(key, n*8)
			for place := range n * 8 {
				full[place/8] ^= 1 << (place % 8)
				if got, want := bloom.Has(string(full), key), !slices.Contains(l, place); got != want {
					t.Errorf("Has(%d full bytes but the bit %d, %.9q) is %t", n, place, key, got)
				}
				full[place/8] ^= 1 << (place % 8)
			}
		}
	}
}

func TestBl2HasOfAnyBytes(t *testing.T) {
	x := uint32(1)
	yes, no := 0, 0
	for range 400 {
		b := make([]byte, x%97)
		for i := range b {
			x = x*1664525 + 1013904223
			b[i] = byte(x>>24) | byte(x>>16)
		}
		x = x*1664525 + 1013904223
		for _, key := range edges() {
			got := bloom.Has(string(b), key)
			if want := has(string(b), key); got != want {
				t.Errorf("Has(%x, %.9q) is %t", b, key, got)
			}
			if got {
				yes++
			} else {
				no++
			}
		}
	}
	if yes < 100 || no < 100 {
		t.Errorf("%d were true, %d false: too few of a kind are tried", yes, no)
	}
}

// A piece of a text is as many bits as it has itself.
func TestBl2HasOfPieces(t *testing.T) {
	whole := makeOf(t, many(20))
	for i := range whole {
		for j := i; j <= len(whole); j++ {
			for _, key := range []string{"a", "b", "key0", "key7919"} {
				piece := whole[i:j]
				if got, want := bloom.Has(piece, key), has(strings.Clone(piece), key); got != want {
					t.Errorf("Has([%d:%d], %q) is %t", i, j, key, got)
				}
			}
		}
	}
}

// Most keys of which no bits were made are told apart.
func TestBl2MostOthers(t *testing.T) {
	s := makeOf(t, many(1000))
	wrong := 0
	for i := range 1000 {
		key := "other" + strconv.Itoa(i)
		got := bloom.Has(s, key)
		if got != has(s, key) {
			t.Errorf("Has of %q is %t", key, got)
		}
		if got {
			wrong++
		}
	}
	if wrong > 30 {
		t.Errorf("%d of 1000 keys that were not put are taken as there", wrong)
	}
}

func TestBl3AlwaysTrue(t *testing.T) {
	lists := [][]string{edges()}
	for _, n := range []int{1, 2, 5, 6, 7, 8, 9, 33, 100, 777, 4095, 4096} {
		lists = append(lists, many(n))
	}
	for _, key := range edges() {
		lists = append(lists, []string{key}, slices.Repeat([]string{key}, 11))
	}
	for _, keys := range lists {
		s := makeOf(t, keys)
		for _, key := range keys {
			if !bloom.Has(s, key) {
				t.Errorf("Has of %.9q, one of %d keys, is false", key, len(keys))
			}
		}
	}
}

// Of as many bytes more keys keep all bits that fewer set.
func TestBl3MoreKeys(t *testing.T) {
	keys := append(edges(), many(500)...)
	was, grew := "", 0
	for n := range len(keys) + 1 {
		s := makeOf(t, keys[:n])
		if len(s) == len(was) {
			for i := range len(s) {
				if s[i]&was[i] != was[i] {
					t.Errorf("bits of %d keys are missing among those of %d", n-1, n)
				}
			}
			if ones(s) < ones(was) {
				t.Errorf("%d keys set %d bits, and %d set %d", n-1, ones(was), n, ones(s))
			}
			grew += ones(s) - ones(was)
		}
		was = s
	}
	if grew == 0 {
		t.Error("no key set a bit more")
	}
}
