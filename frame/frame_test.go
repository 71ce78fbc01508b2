package frame_test

import (
	"encoding/binary"
	"hash/crc32"
	"slices"
	"strings"
	"testing"

	"sorrel/api"
	"sorrel/frame"
)

var castagnoli = crc32.MakeTable(crc32.Castagnoli)

// sealed is bytes with their sum behind, as layer 2 says.
func sealed(s string) string {
	return string(binary.LittleEndian.AppendUint32([]byte(s), crc32.Checksum([]byte(s), castagnoli)))
}

// framed is a text as a frame, as the document says.
func framed(s string) string {
	return sealed(string(binary.AppendUvarint(nil, uint64(len(s)))) + s)
}

// frames are texts as frames, one behind the other.
func frames(l []string) string {
	s := ""
	for _, x := range l {
		s += framed(x)
	}
	return s
}

// noise is a text of so many bytes of all kinds, the same each time.
func noise(n int) string {
	b := make([]byte, n)
	x := uint32(n + 1)
	for i := range b {
		x = x*1664525 + 1013904223
		b[i] = byte(x >> 24)
	}
	return string(b)
}

// texts are those of lengths at which a frame's head grows, of its limit, of bytes of all kinds, and frames themselves.
func texts() []string {
	l := []string{"", "\x00", "\xff", "\n", "ab", "\x00\x00\x00\x00", "\x80\x80\x80", "123456789", "ä€", framed(""), framed("a"), framed("a") + framed("b")}
	for _, n := range []int{1, 2, 3, 4, 5, 8, 126, 127, 128, 129, 255, 256, 16383, 16384, 1<<17 + 1, api.MaxFrame - 1, api.MaxFrame} {
		l = append(l, noise(n), strings.Repeat("\x00", n))
	}
	return l
}

// none are bytes that no frame begins.
func none() []string {
	return []string{
		"", "\x00", "\x00\x00", "\x00\x00\x00\x00",
		"\x00\x00\x00\x00\x00", // a seal of nothing, not of the length
		framed("")[:4], framed("")[1:], framed("a")[:5], framed("a")[1:],
		"\x01", "\x01a", "\x80", "\xff",
		sealed("\x80\x00"),               // 0 in more bytes than it needs
		sealed("\x81\x00a"),              // 1 in more bytes than it needs
		sealed("\x82\x80\x00ab"),         // 2 in more bytes than it needs
		sealed("\x01"), sealed("\x05ab"), // longer than what is there, though sealed
		sealed("a"), sealed("ab"), sealed("123456789"),
		"\x01a" + sealed("a")[1:], // the seal of the text alone
		"\x01a" + sealed(""),      // the seal of nothing
		"\x00" + framed(""), "\n" + framed("a"), "\x01" + framed("a"),
		"\xff\xff\xff\xff\xff\xff\xff\xff\xff" + framed(""),
		"\x80\x80\x80\x80\x80\x80\x80\x80\x80\x01" + framed(""),
		framed("a")[:2] + "\x00\x00\x00\x00",
		"\x01a" + string([]byte{framed("a")[5], framed("a")[4], framed("a")[3], framed("a")[2]}), // the seal's highest byte first
		framed("a")[2:] + "\x01a",                                                                // the seal ahead
	}
}

func TestFr1PutNamed(t *testing.T) {
	named := map[string]string{
		"":          "\x00\x51\x53\x7d\x52",
		"a":         "\x01a" + sealed("\x01a")[2:],
		"123456789": "\x09123456789" + sealed("\x09123456789")[10:],
	}
	for s, want := range named {
		if got, err := frame.Put(s); got != want || err != api.OK {
			t.Errorf("Put(%q) is %q, %v, not %q", s, got, err, want)
		}
	}
}

func TestFr1PutAsSaid(t *testing.T) {
	for _, s := range texts() {
		if got, err := frame.Put(s); got != framed(s) || err != api.OK {
			t.Errorf("Put(%d bytes) is %d bytes, %v", len(s), len(got), err)
		}
	}
}

func TestFr1PutTooLong(t *testing.T) {
	for _, n := range []int{1, 2, 100, api.MaxFrame, 1 << 20} {
		s := strings.Repeat("a", api.MaxFrame+n)
		if got, err := frame.Put(s); got != "" || err != api.ErrArg {
			t.Errorf("Put(%d bytes) is %d bytes, %v", len(s), len(got), err)
		}
	}
}

func TestFr1TakeAsSaid(t *testing.T) {
	for _, s := range texts() {
		f := framed(s)
		for _, behind := range []string{"", "\x00", "x", "\xff\xff\xff\xff\xff", f[:1], f[:len(f)-1], framed(""), "123456789"} {
			if got, n, err := frame.Take(f + behind); got != s || n != len(f) || err != api.OK {
				t.Errorf("Take(frame of %d bytes and %d bytes) is %d bytes, %d, %v", len(s), len(behind), len(got), n, err)
			}
		}
	}
}

func TestFr1TakeNone(t *testing.T) {
	for _, s := range none() {
		if got, n, err := frame.Take(s); got != "" || n != 0 || err != api.ErrFrame {
			t.Errorf("Take(%q) is %q, %d, %v", s, got, n, err)
		}
	}
}

// A frame is of a text that Put takes: one that is longer is none, though it is right in all else.
func TestFr1TakeTooLong(t *testing.T) {
	for _, n := range []int{1, 2, 1000} {
		s := framed(strings.Repeat("a", api.MaxFrame+n))
		if got, n, err := frame.Take(s); got != "" || n != 0 || err != api.ErrFrame {
			t.Errorf("Take(frame of %d bytes) is %d bytes, %d, %v", len(s), len(got), n, err)
		}
		if got, n := frame.All(framed("a") + s + framed("b")); !slices.Equal(got, []string{"a"}) || n != 6 {
			t.Errorf("All(a, frame of %d bytes, b) is %d texts, %d", len(s), len(got), n)
		}
	}
}

func TestFr1AllNone(t *testing.T) {
	for _, s := range none() {
		if got, n := frame.All(s); len(got) != 0 || n != 0 {
			t.Errorf("All(%q) is %q, %d", s, got, n)
		}
	}
}

// All goes up to where no frame begins: frames that stand behind that are not told.
func TestFr1AllUpToNone(t *testing.T) {
	for _, l := range [][]string{{}, {""}, {"a"}, {"", "", ""}, {"a", "", "b", "a"}, {"123456789", noise(300)}} {
		f := frames(l)
		for _, s := range none() {
			if s == "" {
				continue // the frame of y stands right behind
			}
			if got, n := frame.All(f + s + framed("y")); !slices.Equal(got, l) || n != len(f) {
				t.Errorf("All(%q, %q, y) is %q, %d", l, s, got, n)
			}
		}
	}
}

func TestFr2AsTheyAre(t *testing.T) {
	lists := [][]string{{}, {""}, {"a"}, {"", ""}, {"b", "a", "a", "", "c"}, {framed("a"), "a"}, texts()}
	for _, l := range lists {
		s := ""
		for _, x := range l {
			f, err := frame.Put(x)
			if err != api.OK {
				t.Fatalf("Put(%d bytes) is refused: %v", len(x), err)
			}
			s += f
		}
		for _, behind := range []string{"", "\x00", "\xff", "\x00\x00\x00\x00\x00", framed("a")[1:], "123456789"} {
			if got, n := frame.All(s + behind); !slices.Equal(got, l) || n != len(s) {
				t.Errorf("All(%d frames, %q) is %d texts, %d", len(l), behind, len(got), n)
			}
		}
		for i := range l {
			ahead := len(frames(l[:i]))
			if got, n, err := frame.Take(s[ahead:]); got != l[i] || ahead+n != len(frames(l[:i+1])) || err != api.OK {
				t.Errorf("Take at frame %d of %d is %d bytes, %d, %v", i, len(l), len(got), n, err)
			}
		}
	}
}

// whole are the texts of the frames that are whole within so many bytes, and how many bytes these have.
func whole(l []string, size int) ([]string, int) {
	n := 0
	for i, x := range l {
		if n+len(framed(x)) > size {
			return l[:i], n
		}
		n += len(framed(x))
	}
	return l, n
}

func TestFr2CutAnywhere(t *testing.T) {
	for _, l := range [][]string{{""}, {"a"}, {"", "", ""}, {"ab", "", "123456789", framed("a"), ""}, {noise(127), noise(128), "", noise(300)}} {
		s := frames(l)
		for i := 0; i <= len(s); i++ {
			want, size := whole(l, i)
			if got, n := frame.All(s[:i]); !slices.Equal(got, want) || n != size {
				t.Fatalf("All(%q, cut to %d) is %q, %d, not %q, %d", s, i, got, n, want, size)
			}
		}
		first := len(framed(l[0]))
		for i := range first {
			if got, n, err := frame.Take(s[:i]); got != "" || n != 0 || err != api.ErrFrame {
				t.Fatalf("Take(%q, cut to %d) is %q, %d, %v", s, i, got, n, err)
			}
		}
	}
}

// A frame of the greatest text, cut at its edges.
func TestFr2CutGreatest(t *testing.T) {
	s := framed(noise(api.MaxFrame))
	for _, i := range []int{0, 1, 2, 3, 4, 7, 8, len(s) - 5, len(s) - 4, len(s) - 3, len(s) - 1} {
		if got, n := frame.All(framed("a") + s[:i]); !slices.Equal(got, []string{"a"}) || n != 6 {
			t.Errorf("All(a, greatest cut to %d) is %d texts, %d", i, len(got), n)
		}
	}
}

// turns are ways to turn one to four bytes in a row, each of them at least one bit.
func turns() []string {
	l := []string{}
	for b := 1; b < 256; b++ {
		l = append(l, string([]byte{byte(b)}))
	}
	for n := 2; n <= 4; n++ {
		for _, b := range []string{"\x01", "\x80", "\xff", "\x55"} {
			l = append(l, strings.Repeat(b, n), b+strings.Repeat("\x00", n-2)+"\x01", b+strings.Repeat("\x00", n-2)+"\x80")
		}
		for i := range 20 {
			l = append(l, "\x01"+noise(100 + i)[:n-2]+"\x80", "\x80"+noise(200 + i)[:n-2]+"\x01")
		}
	}
	return append(l, "\x78\x3b\xf6\x82") // the sum's own bits
}

// spoil is bytes of which some, from one on, are turned.
func spoil(s string, from int, turn string) string {
	b := []byte(s)
	for i := range len(turn) {
		b[from+i] ^= turn[i]
	}
	return string(b)
}

// What is ahead of a text that was spoilt is read, it itself and what is behind it is not.
func TestFr2UpToFourBytesOthers(t *testing.T) {
	l := turns()
	for _, x := range []string{"a", "abc", "abcd", "123456789", strings.Repeat("\x00", 20), noise(64), noise(130)} {
		f := framed(x)
		head := len(f) - len(x) - 4
		for _, turn := range l {
			for from := head; from+len(turn) <= len(f); from++ {
				bad := spoil(f, from, turn)
				if got, n, err := frame.Take(bad); got != "" || n != 0 || err != api.ErrFrame {
					t.Fatalf("Take(%q) is %q, %d, %v: %q with %q turned in at %d", bad, got, n, err, f, turn, from)
				}
				if got, n := frame.All(framed("ab") + bad + framed("b")); !slices.Equal(got, []string{"ab"}) || n != 7 {
					t.Fatalf("All(ab, %q, b) is %q, %d", bad, got, n)
				}
			}
		}
	}
}

// What lies behind a piece's end is not read.
func TestFr2Pieces(t *testing.T) {
	s := framed("a") + framed("123456789") + framed("")
	for i := range len(s) {
		for j := i; j <= len(s); j++ {
			got, n := frame.All(s[i:j])
			want, size := frame.All(strings.Clone(s[i:j]))
			if !slices.Equal(got, want) || n != size {
				t.Errorf("All([%d:%d]) is %q, %d, not %q, %d", i, j, got, n, want, size)
			}
		}
	}
}

// Lists that are answered share nothing: one that is changed leaves the next one as it is.
func TestFr1ListsAreNew(t *testing.T) {
	s := framed("a") + framed("b")
	first, _ := frame.All(s)
	first[0], first[1] = "x", "y"
	if got, n := frame.All(s); !slices.Equal(got, []string{"a", "b"}) || n != len(s) {
		t.Errorf("All(a, b) is %q, %d", got, n)
	}
}
