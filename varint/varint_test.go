package varint_test

import (
	"math"
	"strings"
	"testing"

	"sorrel/api"
	"sorrel/varint"
)

// forms are numbers and their bytes, written out by hand.
var forms = []struct {
	n int
	s string
}{
	{0, "\x00"},
	{1, "\x01"},
	{127, "\x7f"},
	{128, "\x80\x01"},
	{129, "\x81\x01"},
	{300, "\xac\x02"},
	{1<<14 - 1, "\xff\x7f"},
	{1 << 14, "\x80\x80\x01"},
	{api.MaxFrame, "\x80\x80\x10"},
	{api.MaxNumber, "\xff\xff\xff\xff\xff\x1f"},
	{1<<56 - 1, "\xff\xff\xff\xff\xff\xff\xff\x7f"},
	{1 << 56, "\x80\x80\x80\x80\x80\x80\x80\x80\x01"},
	{1<<62 - 1, "\xff\xff\xff\xff\xff\xff\xff\xff\x3f"},
	{1 << 62, "\x80\x80\x80\x80\x80\x80\x80\x80\x40"},
}

// numbers are those about each power of two, up to 2^62.
func numbers() []int {
	l := []int{0, 300}
	for i := range 62 {
		l = append(l, 1<<i, 1<<(i+1)-1, 1<<i|1<<(i/2))
	}
	return append(l, 1<<62)
}

// texts are short ones of all kinds, and some about the lengths at which the length's bytes become more.
func texts() []string {
	l := []string{"", "a", "ab", "\x00", "\x00\x00", "\x80", "\xff\xff", "\n", "ä€"}
	for _, n := range []int{3, 127, 128, 129, 1<<14 - 1, 1 << 14, api.MaxFrame - 1, api.MaxFrame} {
		l = append(l, strings.Repeat("x", n))
	}
	return l
}

// behind are bytes that may stand behind what was put.
var behind = []string{"", "\x00", "\x01", "\x7f", "\x80", "\xff", "\xff\xff\xff\xff\xff\xff\xff\xff\xff\xff", "abc"}

// eachText tells all texts of up to so many bytes out of an alphabet.
func eachText(alphabet string, most int, tell func(string)) {
	tell("")
	if most == 0 {
		return
	}
	for i := range len(alphabet) {
		eachText(alphabet, most-1, func(s string) { tell(alphabet[i:i+1] + s) })
	}
}

// take is what the document says of Take, word by word.
func take(s string) (int, int, api.Errno) {
	first := s[:min(9, len(s))]
	last := -1
	for i := len(first) - 1; i >= 0; i-- {
		if first[i] < 128 {
			last = i
		}
	}
	if last < 0 && len(s) >= 9 {
		return 0, 0, api.ErrForm
	}
	if last < 0 {
		return 0, 0, api.ErrShort
	}
	if last > 0 && s[last] == 0 {
		return 0, 0, api.ErrForm
	}
	var n uint64
	for i := last; i >= 0; i-- {
		n = n*128 + uint64(s[i]%128)
	}
	if n > 1<<62 {
		return 0, 0, api.ErrForm
	}
	return int(n), last + 1, api.OK
}

func TestVa1PutIsANumbersBytes(t *testing.T) {
	for _, f := range forms {
		if s, err := varint.Put(f.n); s != f.s || err != api.OK {
			t.Errorf("Put(%d) = %q, %d; want %q", f.n, s, err, f.s)
		}
	}
}

func TestVa1PutHasGroupsOfSevenBits(t *testing.T) {
	for _, n := range numbers() {
		var want []byte
		rest := n
		for ; rest >= 128; rest /= 128 {
			want = append(want, byte(rest%128+128))
		}
		want = append(want, byte(rest))
		if s, err := varint.Put(n); s != string(want) || err != api.OK {
			t.Errorf("Put(%d) = %q, %d; want %q", n, s, err, want)
		}
	}
}

func TestVa1PutRefusesWhatIsNoNumber(t *testing.T) {
	for _, n := range []int{-1, -2, -127, -128, -1 << 62, math.MinInt, 1<<62 + 1, math.MaxInt - 1, math.MaxInt} {
		if s, err := varint.Put(n); s != "" || err != api.ErrArg {
			t.Errorf("Put(%d) = %q, %d; want ErrArg", n, s, err)
		}
	}
}

func TestVa1TakeIsANumberAndItsLength(t *testing.T) {
	for _, f := range forms {
		for _, b := range behind {
			if n, k, err := varint.Take(f.s + b); n != f.n || k != len(f.s) || err != api.OK {
				t.Errorf("Take(%q) = %d, %d, %d; want %d, %d", f.s+b, n, k, err, f.n, len(f.s))
			}
		}
	}
}

func TestVa1TakeRefuses(t *testing.T) {
	eight, nine := strings.Repeat("\x80", 8), strings.Repeat("\x80", 9)
	for _, c := range []struct {
		s    string
		want api.Errno
	}{
		{"", api.ErrShort},
		{"\x80", api.ErrShort},
		{"\xff\xff", api.ErrShort},
		{eight, api.ErrShort},
		{strings.Repeat("\xff", 8), api.ErrShort},
		{nine, api.ErrForm},
		{nine + "\x00", api.ErrForm},
		{nine + "\x01", api.ErrForm},
		{strings.Repeat("\xff", 9), api.ErrForm},
		{strings.Repeat("\xff", 10), api.ErrForm},
		{"\x80\x00", api.ErrForm},
		{"\x80\x00\x01", api.ErrForm},
		{"\xff\x00", api.ErrForm},
		{"\x80\x80\x00", api.ErrForm},
		{eight + "\x00", api.ErrForm},
		{"\x81" + eight[1:] + "\x40", api.ErrForm},
		{eight + "\x41", api.ErrForm},
		{strings.Repeat("\xff", 8) + "\x40", api.ErrForm},
		{strings.Repeat("\xff", 8) + "\x7f", api.ErrForm},
	} {
		if n, k, err := varint.Take(c.s); n != 0 || k != 0 || err != c.want {
			t.Errorf("Take(%q) = %d, %d, %d; want 0, 0, %d", c.s, n, k, err, c.want)
		}
	}
}

func TestVa1TakeOfAllShortTexts(t *testing.T) {
	all := ""
	for i := range 256 {
		all += string([]byte{byte(i)})
	}
	check := func(s string) {
		n, k, err := varint.Take(s)
		if wn, wk, we := take(s); n != wn || k != wk || err != we {
			t.Errorf("Take(%q) = %d, %d, %d; want %d, %d, %d", s, n, k, err, wn, wk, we)
		}
		if err != api.OK {
			return
		}
		if p, err := varint.Put(n); p != s[:k] || err != api.OK {
			t.Errorf("Put(%d) = %q, %d; want %q", n, p, err, s[:k])
		}
	}
	eachText(all, 2, check)
	eachText("\x00\x40\x80\xff", 10, check)
}

func TestVa2TextHasItsLengthAhead(t *testing.T) {
	for _, c := range []struct{ s, head string }{
		{"", "\x00"},
		{"ab", "\x02"},
		{"\x00", "\x01"},
		{strings.Repeat("a", 127), "\x7f"},
		{strings.Repeat("a", 128), "\x80\x01"},
		{strings.Repeat("a", 300), "\xac\x02"},
		{strings.Repeat("a", api.MaxFrame), "\x80\x80\x10"},
	} {
		if s, err := varint.Text(c.s); s != c.head+c.s || err != api.OK {
			t.Errorf("Text of %d bytes: %d bytes, %d; want %q ahead", len(c.s), len(s), err, c.head)
		}
	}
}

func TestVa2TextRefusesMoreThanMaxFrame(t *testing.T) {
	for _, n := range []int{api.MaxFrame + 1, api.MaxFrame + 2, 2 * api.MaxFrame} {
		if s, err := varint.Text(strings.Repeat("a", n)); s != "" || err != api.ErrArg {
			t.Errorf("Text of %d bytes: %d bytes, %d; want ErrArg", n, len(s), err)
		}
	}
}

func TestVa2TakeTextIsATextAndTheLengthOfBoth(t *testing.T) {
	for _, c := range []struct {
		s, want string
		k       int
	}{
		{"\x00", "", 1},
		{"\x00abc", "", 1},
		{"\x02ab", "ab", 3},
		{"\x03abcd", "abc", 4},
		{"\x01\x00", "\x00", 2},
		{"\x02\x80\x00", "\x80\x00", 3},
	} {
		if s, k, err := varint.TakeText(c.s); s != c.want || k != c.k || err != api.OK {
			t.Errorf("TakeText(%q) = %q, %d, %d; want %q, %d", c.s, s, k, err, c.want, c.k)
		}
	}
	long := strings.Repeat("a", api.MaxFrame)
	if s, k, err := varint.TakeText("\x80\x80\x10" + long + "b"); s != long || k != 3+api.MaxFrame || err != api.OK {
		t.Errorf("TakeText of MaxFrame bytes: %d bytes, %d, %d", len(s), k, err)
	}
}

func TestVa2TakeTextRefuses(t *testing.T) {
	long := strings.Repeat("a", api.MaxFrame+1)
	for _, c := range []struct {
		name, s string
		want    api.Errno
	}{
		{"nothing", "", api.ErrShort},
		{"half a length", "\x80", api.ErrShort},
		{"a last byte of 0", "\x81\x00a", api.ErrForm},
		{"nine bytes of 128 or more", strings.Repeat("\x80", 9) + long, api.ErrForm},
		{"a length above 2^62", strings.Repeat("\xff", 8) + "\x40" + long, api.ErrForm},
		{"a length of 2^62", strings.Repeat("\x80", 8) + "\x40" + long, api.ErrForm},
		{"one more than MaxFrame, all there", "\x81\x80\x10" + long, api.ErrForm},
		{"one more than MaxFrame, nothing there", "\x81\x80\x10", api.ErrForm},
		{"MaxFrame, one missing", "\x80\x80\x10" + long[2:], api.ErrShort},
		{"MaxFrame, nothing there", "\x80\x80\x10", api.ErrShort},
		{"one byte, nothing there", "\x01", api.ErrShort},
		{"three bytes, two there", "\x03ab", api.ErrShort},
	} {
		if s, k, err := varint.TakeText(c.s); s != "" || k != 0 || err != c.want {
			t.Errorf("TakeText of %s: %d bytes, %d, %d; want none, 0, %d", c.name, len(s), k, err, c.want)
		}
	}
}

func TestVa2TakeTextRefusesWhatTakeRefuses(t *testing.T) {
	eachText("\x00\x01\x40\x80\xff", 9, func(s string) {
		_, _, want := varint.Take(s)
		if want == api.OK {
			return
		}
		if x, k, err := varint.TakeText(s); x != "" || k != 0 || err != want {
			t.Errorf("TakeText(%q) = %q, %d, %d; want none, 0, %d", s, x, k, err, want)
		}
	})
}

func TestVa2FixIsFourBytes(t *testing.T) {
	for _, c := range []struct {
		n int
		s string
	}{
		{0, "\x00\x00\x00\x00"},
		{1, "\x01\x00\x00\x00"},
		{255, "\xff\x00\x00\x00"},
		{256, "\x00\x01\x00\x00"},
		{0x01020304, "\x04\x03\x02\x01"},
		{1 << 31, "\x00\x00\x00\x80"},
		{0xE3069283, "\x83\x92\x06\xe3"},
		{1<<32 - 1, "\xff\xff\xff\xff"},
	} {
		if s, err := varint.Fix(c.n); s != c.s || err != api.OK {
			t.Errorf("Fix(%d) = %q, %d; want %q", c.n, s, err, c.s)
		}
		for _, b := range behind {
			if n, err := varint.TakeFix(c.s + b); n != c.n || err != api.OK {
				t.Errorf("TakeFix(%q) = %d, %d; want %d", c.s+b, n, err, c.n)
			}
		}
	}
}

func TestVa2FixRefusesWhatFourBytesDoNotHold(t *testing.T) {
	for _, n := range []int{-1, -1 << 31, math.MinInt, 1 << 32, 1<<32 + 1, 1 << 62, math.MaxInt} {
		if s, err := varint.Fix(n); s != "" || err != api.ErrArg {
			t.Errorf("Fix(%d) = %q, %d; want ErrArg", n, s, err)
		}
	}
}

func TestVa2TakeFixRefusesLessThanFourBytes(t *testing.T) {
	for _, s := range []string{"", "\x00", "\xff\xff", "\x01\x02\x03"} {
		if n, err := varint.TakeFix(s); n != 0 || err != api.ErrShort {
			t.Errorf("TakeFix(%q) = %d, %d; want 0, ErrShort", s, n, err)
		}
	}
}

func TestVa3ANumberIsTakenBack(t *testing.T) {
	for _, n := range numbers() {
		s, _ := varint.Put(n)
		for _, b := range behind {
			if m, k, err := varint.Take(s + b); m != n || k != len(s) || err != api.OK {
				t.Errorf("Take(Put(%d) + %q) = %d, %d, %d", n, b, m, k, err)
			}
		}
		for i := range len(s) {
			if m, k, err := varint.Take(s[:i]); m != 0 || k != 0 || err != api.ErrShort {
				t.Errorf("Take of %d bytes of Put(%d) = %d, %d, %d; want ErrShort", i, n, m, k, err)
			}
		}
	}
}

func TestVa3ATextIsTakenBack(t *testing.T) {
	for _, x := range texts() {
		s, _ := varint.Text(x)
		for _, b := range behind {
			if y, k, err := varint.TakeText(s + b); y != x || k != len(s) || err != api.OK {
				t.Errorf("TakeText(Text of %d bytes + %q): %d bytes, %d, %d", len(x), b, len(y), k, err)
			}
		}
		for i := range len(s) {
			if y, k, err := varint.TakeText(s[:i]); y != "" || k != 0 || err != api.ErrShort {
				t.Fatalf("TakeText of %d bytes of Text of %d bytes: %d bytes, %d, %d; want ErrShort", i, len(x), len(y), k, err)
			}
		}
	}
}

func TestVa3AFixIsTakenBack(t *testing.T) {
	for i := range 32 {
		for _, n := range []int{1 << i, 1<<(i+1) - 1, 1<<i | 1<<(i/2)} {
			s, _ := varint.Fix(n)
			if m, err := varint.TakeFix(s + "\xff"); m != n || err != api.OK {
				t.Errorf("TakeFix(Fix(%d)) = %d, %d", n, m, err)
			}
			for k := range len(s) {
				if m, err := varint.TakeFix(s[:k]); m != 0 || err != api.ErrShort {
					t.Errorf("TakeFix of %d bytes of Fix(%d) = %d, %d; want ErrShort", k, n, m, err)
				}
			}
		}
	}
}

// checkNoneBegins holds each text that was put against each other one.
func checkNoneBegins(t *testing.T, puts map[string]bool) {
	t.Helper()
	for a := range puts {
		for b := range puts {
			if a != b && strings.HasPrefix(b, a) {
				t.Errorf("bytes of %d begin others of %d", len(a), len(b))
			}
		}
	}
}

func TestVa3NoBytesBeginOthers(t *testing.T) {
	puts := map[string]bool{}
	of := map[string]int{}
	for _, n := range append(numbers(), 2, 3, 126, 129, 255, 383, 16511) {
		s, _ := varint.Put(n)
		if m, ok := of[s]; ok && m != n {
			t.Errorf("%d and %d are %q both", m, n, s)
		}
		of[s] = n
		puts[s] = true
	}
	checkNoneBegins(t, puts)
}

func TestVa3NoTextsBytesBeginOthers(t *testing.T) {
	puts := map[string]bool{}
	of := map[string]string{}
	tell := func(x string) {
		s, _ := varint.Text(x)
		if y, ok := of[s]; ok && y != x {
			t.Errorf("two texts, of %d and %d bytes, have the same bytes", len(x), len(y))
		}
		of[s] = x
		puts[s] = true
	}
	for _, x := range texts() {
		tell(x)
	}
	eachText("\x00\x01\x02\xff", 4, tell)
	checkNoneBegins(t, puts)
}
