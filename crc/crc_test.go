package crc_test

import (
	"hash/crc32"
	"math"
	"strings"
	"testing"

	"sorrel/crc"
)

// sums are texts and their sums, as others publish them.
var sums = []struct {
	s   string
	sum int
}{
	{"", 0},
	{"a", 0xC1D04330},
	{"123456789", 0xE3069283},
	{strings.Repeat("\x00", 32), 0x8A9136AA},
	{strings.Repeat("\xff", 32), 0x62A8AB43},
	{"\x00\x01\x02\x03\x04\x05\x06\x07\x08\x09\x0a\x0b\x0c\x0d\x0e\x0f\x10\x11\x12\x13\x14\x15\x16\x17\x18\x19\x1a\x1b\x1c\x1d\x1e\x1f", 0x46DD794E},
}

// starts are sums to go on from: those of 32 bits, those below 0, those of more bits.
var starts = []int{
	0, 1, 0x7FFFFFFF, 0x80000000, 0xE3069283, 0xFFFFFFFF,
	-1, -2, -0x80000000, -0x100000000, -0x1CF96D7D, math.MinInt,
	1 << 32, 1<<32 + 1, 1<<40 | 0xE3069283, math.MaxInt,
}

var castagnoli = crc32.MakeTable(crc32.Castagnoli)

// more is what the document says of More, word by word.
func more(sum int, s string) int {
	bits := uint64(sum)%(1<<32) ^ 0xFFFFFFFF
	for i := 0; i < len(s); i++ {
		bits ^= uint64(s[i])
		for b := 0; b < 8; b++ {
			if bits%2 == 1 {
				bits = bits/2 ^ 0x82F63B78
			} else {
				bits = bits / 2
			}
		}
	}
	return int(bits ^ 0xFFFFFFFF)
}

// last is a sum as four bytes, the lowest first.
func last(sum int) string {
	return string([]byte{byte(sum), byte(sum / 256), byte(sum / 65536), byte(sum / 16777216)})
}

// noise is a text of so many bytes of all kinds, the same each time.
func noise(n int) string {
	b := make([]byte, n)
	x := uint32(n + 1)
	for i := range b {
		x = x*1664525 + 1013904223
		b[i] = byte(x >> 24)
	}
	return string(b)
}

// texts are those of fewer than four bytes, of just four, and of more.
func texts() []string {
	l := []string{"", "\x00", "\x80", "\xff", "ab", "\x00\x00", "abc", "\x00\x00\x00", "abcd", "\x00\x00\x00\x00", "\xff\xff\xff\xff", "abcde", "\n", "ä€", "123456789"}
	for _, n := range []int{1, 2, 3, 4, 5, 7, 8, 9, 31, 64, 255, 256, 257, 1000, 1 << 16} {
		l = append(l, noise(n))
	}
	return l
}

func TestCr1SumsAsPublished(t *testing.T) {
	for _, c := range sums {
		if got := crc.Sum(c.s); got != c.sum {
			t.Errorf("Sum(%q) is %X, not %X", c.s, got, c.sum)
		}
	}
}

func TestCr1EachByte(t *testing.T) {
	for b := range 256 {
		s := string([]byte{byte(b)})
		if got, want := crc.Sum(s), int(crc32.Checksum([]byte(s), castagnoli)); got != want {
			t.Errorf("Sum(%q) is %X, not %X", s, got, want)
		}
	}
}

func TestCr1MoreAsSaid(t *testing.T) {
	for _, s := range texts() {
		if got := crc.Sum(s); got != crc.More(0, s) || got != int(crc32.Checksum([]byte(s), castagnoli)) {
			t.Errorf("Sum of %d bytes is %X", len(s), got)
		}
		for _, sum := range starts {
			got := crc.More(sum, s)
			if want := more(sum, s); got != want {
				t.Errorf("More(%d, %d bytes) is %X, not %X", sum, len(s), got, want)
			}
			if want := int(crc32.Update(uint32(sum), castagnoli, []byte(s))); got != want {
				t.Errorf("More(%d, %d bytes) is %X, not %X", sum, len(s), got, want)
			}
		}
	}
}

// A sum is 32 bits whatever it goes on from, and of nothing more it is those that went in.
func TestCr1LowestBits(t *testing.T) {
	for _, sum := range starts {
		low := int(uint32(sum))
		if got := crc.More(sum, ""); got != low {
			t.Errorf("More(%d, \"\") is %X, not %X", sum, got, low)
		}
		if got, want := crc.More(sum, "123456789"), crc.More(low, "123456789"); got != want || got < 0 || got > 0xFFFFFFFF {
			t.Errorf("More(%d, ..) is %X, not %X", sum, got, want)
		}
	}
}

func TestCr2SealAsSaid(t *testing.T) {
	named := map[string]string{
		"":          "\x00\x00\x00\x00",
		"a":         "a\x30\x43\xd0\xc1",
		"123456789": "123456789\x83\x92\x06\xe3",
	}
	for s, want := range named {
		if got := crc.Seal(s); got != want {
			t.Errorf("Seal(%q) is %q, not %q", s, got, want)
		}
	}
	for _, s := range texts() {
		got := crc.Seal(s)
		if got != s+last(more(0, s)) {
			t.Errorf("Seal of %d bytes ends with %q", len(s), got[len(s):])
		}
		if !crc.Check(got) {
			t.Errorf("Check of %d sealed bytes is false", len(s))
		}
	}
}

// check is what the document says of Check, word by word.
func check(s string) bool {
	return len(s) >= 4 && s[len(s)-4:] == last(more(0, s[:len(s)-4]))
}

func TestCr2CheckNamed(t *testing.T) {
	for s, want := range map[string]bool{
		"":                          false,
		"\x00":                      false,
		"\x00\x00":                  false,
		"abc":                       false,
		"\x00\x00\x00":              false,
		"\x00\x00\x00\x00":          true, // the empty text, sealed
		"\x00\x00\x00\x01":          false,
		"\x01\x00\x00\x00":          false,
		"abcd":                      false,
		"\xff\xff\xff\xff":          false,
		"\x00\x00\x00\x00\x00":      false,
		"a\x30\x43\xd0\xc1":         true,
		"a\xc1\xd0\x43\x30":         false, // the highest byte first
		"\x30\x43\xd0\xc1a":         false, // the sum ahead
		"b\x30\x43\xd0\xc1":         false,
		"123456789\x83\x92\x06\xe3": true,
		"123456789\xe3\x06\x92\x83": false,
		"23456789\x83\x92\x06\xe3":  false,
	} {
		if got := crc.Check(s); got != want {
			t.Errorf("Check(%q) is %v", s, got)
		}
	}
}

func TestCr2CheckAsSaid(t *testing.T) {
	for _, s := range texts() {
		if got, want := crc.Check(s), check(s); got != want {
			t.Errorf("Check(%d bytes) is %v, not %v", len(s), got, want)
		}
	}
}

// A sealed text that is cut off, or has bytes ahead or behind, is not right: these ones happen to have no sum that fits.
func TestCr2CutAndMore(t *testing.T) {
	for _, s := range texts() {
		// Zero bytes that are sealed are right when they are cut to others' seals.
		if len(s) > 300 || strings.Trim(s, "\x00") == "" {
			continue
		}
		sealed := crc.Seal(s)
		for i := range len(sealed) {
			if got := crc.Check(sealed[:i]); got != check(sealed[:i]) || got {
				t.Errorf("Check of %q, cut to %d bytes, is %v", sealed, i, got)
			}
			if got := crc.Check(sealed[i+1:]); got != check(sealed[i+1:]) || got {
				t.Errorf("Check of %q without %d bytes ahead is %v", sealed, i+1, got)
			}
		}
		for _, x := range []string{"\x00", "\xff", "a", "\x00\x00", "abc", "\x00\x00\x00\x00", "123456789", sealed} {
			if got := crc.Check(sealed + x); got != check(sealed+x) || got {
				t.Errorf("Check of %q with %q behind is %v", sealed, x, got)
			}
			if got := crc.Check(x + sealed); got != check(x+sealed) || got {
				t.Errorf("Check of %q with %q ahead is %v", sealed, x, got)
			}
		}
	}
}

// What is behind a text's end is not read: a piece has the sum of its own bytes.
func TestCr2Pieces(t *testing.T) {
	whole := crc.Seal(noise(40))
	for i := range len(whole) {
		for j := i; j <= len(whole); j++ {
			piece := whole[i:j]
			if got, want := crc.Sum(piece), crc.Sum(strings.Clone(piece)); got != want {
				t.Errorf("Sum of [%d:%d] is %X, not %X", i, j, got, want)
			}
			if got, want := crc.Check(piece), i == 0 && j == len(whole); got != want {
				t.Errorf("Check of [%d:%d] is %v", i, j, got)
			}
		}
	}
}

func TestCr3SumOfBoth(t *testing.T) {
	if crc.More(crc.Sum("1234"), "56789") != 0xE3069283 {
		t.Error("More of 1234's sum, 56789 is not E3069283")
	}
	for _, s := range texts() {
		want := crc.Sum(s)
		for i := 0; i <= len(s); i += 1 + len(s)/50 {
			if got := crc.More(crc.Sum(s[:i]), s[i:]); got != want {
				t.Errorf("More of %d bytes' sum, %d bytes is %X, not %X", i, len(s)-i, got, want)
			}
		}
		each := 0
		for i := range len(s) {
			each = crc.More(each, s[i:i+1])
		}
		if each != want {
			t.Errorf("More of each of %d bytes is %X, not %X", len(s), each, want)
		}
	}
}

// spoil is a text of which some bytes, from one on, are turned.
func spoil(s string, from int, turn string) string {
	b := []byte(s)
	for i := range len(turn) {
		b[from+i] ^= turn[i]
	}
	return string(b)
}

// turns are ways to turn one to four bytes in a row, each of them at least one bit.
func turns() []string {
	l := []string{}
	for b := 1; b < 256; b++ {
		l = append(l, string([]byte{byte(b)}))
	}
	for n := 2; n <= 4; n++ {
		for _, b := range []string{"\x01", "\x80", "\xff", "\x55"} {
			l = append(l, strings.Repeat(b, n))
			l = append(l, b+strings.Repeat("\x00", n-2)+"\x01")
			l = append(l, b+strings.Repeat("\x00", n-2)+"\x80")
			l = append(l, b+strings.Repeat("\x00", n-1), strings.Repeat("\x00", n-1)+b)
		}
		for i := range 40 {
			l = append(l, "\x01"+noise(100 + i)[:n-2]+"\x80", "\x80"+noise(200 + i)[:n-2]+"\x01")
		}
	}
	// The sum's own bits, as they would be turned by those of one byte ahead.
	return append(l, last(0x82F63B78), last(0xE3069283), last(0xC1D04330))
}

func TestCr3UpToFourBytesOthers(t *testing.T) {
	l := turns()
	for _, s := range []string{"", "\x00", "a", "abc", "abcd", "123456789", strings.Repeat("\x00", 20), noise(64)} {
		sealed := crc.Seal(s)
		for _, turn := range l {
			for from := 0; from+len(turn) <= len(sealed); from++ {
				if bad := spoil(sealed, from, turn); crc.Check(bad) {
					t.Fatalf("Check(%q) is true: %q with %q turned in at %d", bad, sealed, turn, from)
				}
			}
		}
	}
}
