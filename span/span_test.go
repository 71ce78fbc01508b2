package span_test

import (
	"slices"
	"sort"
	"strings"
	"testing"

	"sorrel/api"
	"sorrel/span"
)

// of is so many bytes of one kind.
func of(b string, n int) string {
	return strings.Repeat(b, n)
}

// stands tells whether a stands ahead of b, byte by byte, as the document says.
func stands(a, b string) bool {
	for i := 0; i < len(a) && i < len(b); i++ {
		if a[i] != b[i] {
			return a[i] < b[i]
		}
	}
	return len(a) < len(b)
}

// isKey is what the document says of a key.
func isKey(s string) bool {
	return 1 <= len(s) && len(s) <= 64
}

// mayBe is what the document says of a range that may be, word by word.
func mayBe(x api.Span) bool {
	if len(x.Lo) > 64 {
		return false
	}
	return x.Hi == "" || len(x.Hi) <= 64 && stands(x.Lo, x.Hi)
}

// within is what the document says of a key within a range that may be.
func within(x api.Span, key string) bool {
	return !stands(key, x.Lo) && (x.Hi == "" || stands(key, x.Hi))
}

// texts are keys, and texts that are none: of bytes of all kinds, of beginnings of others, of lengths about the limits.
func texts() []string {
	l := []string{"", "\x00", "\x00\x00", "\n", "a", "a\x00", "a\xff", "ab", "b", "m", "\x7f", "\x80", "\xff", "\xff\xff", "ä"}
	for _, b := range []string{"\x00", "a", "\xff"} {
		l = append(l, of(b, 63), of(b, 64), of(b, 65))
	}
	return append(l, of("a", 63)+"b", of("a", 63)+"\x00", of("a", 64)+"\x00", of("b", 128), of("m", 1000))
}

// spans are the ranges from each text up to each text, that may be or not.
func spans() []api.Span {
	l := []api.Span{}
	for _, lo := range texts() {
		for _, hi := range texts() {
			l = append(l, api.Span{Lo: lo, Hi: hi})
		}
	}
	return l
}

func TestSp1KeyNamed(t *testing.T) {
	for _, s := range []string{"a", "\x00", "\xff", "\n", " ", "ab", "ä€", of("a", 63), of("a", 64), of("\x00", 64), of("\xff", 64), of("ä", 32)} {
		if !span.Key(s) {
			t.Errorf("Key(%q) is false", s)
		}
	}
	for _, s := range []string{"", of("a", 65), of("\x00", 65), of("ä", 33), of("a", 128), of("a", 256), of("a", 1<<16)} {
		if span.Key(s) {
			t.Errorf("Key of %d bytes is true", len(s))
		}
	}
}

func TestSp1KeyOfEachLength(t *testing.T) {
	for n := range 400 {
		if got, want := span.Key(of("x", n)), n >= 1 && n <= 64; got != want {
			t.Errorf("Key of %d bytes is %v", n, got)
		}
	}
}

// checks are ranges, and whether they may be.
var checks = []struct {
	lo, hi string
	want   api.Errno
}{
	{"", "", api.OK},
	{"", "\x00", api.OK},
	{"", "a", api.OK},
	{"a", "", api.OK},
	{"b", "m", api.OK},
	{"b", "b\x00", api.OK},
	{"b", "ba", api.OK},
	{"\x00", "\x00\x00", api.OK},
	{"\x7f", "\x80", api.OK},
	{"z", "\xff", api.OK},
	{of("a", 64), "", api.OK},
	{"", of("a", 64), api.OK},
	{of("a", 63), of("a", 64), api.OK},
	{of("a", 64), of("b", 64), api.OK},
	{of("\xff", 64), "", api.OK},
	{"b", "b", api.ErrArg},
	{"m", "b", api.ErrArg},
	{"ba", "b", api.ErrArg},
	{"b\x00", "b", api.ErrArg},
	{"\x00", "\x00", api.ErrArg},
	{"\x80", "\x7f", api.ErrArg},
	{"\xff", "z", api.ErrArg},
	{of("a", 64), of("a", 63), api.ErrArg},
	{of("a", 64), of("a", 64), api.ErrArg},
	{of("a", 65), "", api.ErrArg},
	{"", of("a", 65), api.ErrArg},
	{"a", of("b", 65), api.ErrArg},
	{of("a", 65), "b", api.ErrArg},
	{of("a", 64), of("a", 65), api.ErrArg},
	{of("a", 65), of("b", 65), api.ErrArg},
	{of("a", 1000), of("b", 1000), api.ErrArg},
}

func TestSp1CheckNamed(t *testing.T) {
	for _, c := range checks {
		if got := span.Check(api.Span{Lo: c.lo, Hi: c.hi}); got != c.want {
			t.Errorf("Check(%q, %q) is %v, not %v", c.lo, c.hi, got, c.want)
		}
	}
}

func TestSp1CheckAsSaid(t *testing.T) {
	for _, x := range spans() {
		want := api.ErrArg
		if mayBe(x) {
			want = api.OK
		}
		if got := span.Check(x); got != want {
			t.Errorf("Check(%q) is %v, not %v", x, got, want)
		}
	}
}

// keys are ranges, keys within them, and texts that are not, or are no keys.
var keys = []struct {
	x   api.Span
	in  []string
	out []string
}{
	{api.Span{Lo: "b", Hi: "m"}, []string{"b", "b\x00", "bb", "c", "lzzz", "l\xff", "b" + of("a", 63)}, []string{"", "a", "a\xff", "m", "m\x00", "mm", "z", "\xff", "\x00", "B", "b" + of("a", 64)}},
	{api.Span{}, []string{"\x00", "a", "\xff", of("\xff", 64), of("\x00", 64)}, []string{"", of("a", 65), of("\xff", 65)}},
	{api.Span{Lo: "b"}, []string{"b", "b\x00", "zz", "\xff", of("\xff", 64)}, []string{"", "\x00", "a", "a\xff", of("z", 65)}},
	{api.Span{Hi: "b"}, []string{"\x00", "a", "a\xff", of("a", 64)}, []string{"", "b", "b\x00", "c", of("a", 65)}},
	{api.Span{Lo: "b", Hi: "b\x00"}, []string{"b"}, []string{"", "a\xff", "b\x00", "b\x00\x00", "ba"}},
	{api.Span{Hi: "\x00"}, nil, []string{"", "\x00", "\x00\x00", "a"}},
	{api.Span{Lo: "\x7f", Hi: "\x80"}, []string{"\x7f", "\x7f\xff"}, []string{"~", "\x80", "\xff"}},
	{api.Span{Lo: of("a", 64), Hi: of("a", 63) + "b"}, []string{of("a", 64)}, []string{of("a", 63), of("a", 65), of("a", 64) + "\x00", of("a", 63) + "b"}},
	// Ranges that may not be have no keys.
	{api.Span{Lo: "m", Hi: "b"}, nil, []string{"", "a", "b", "c", "m", "z"}},
	{api.Span{Lo: "b", Hi: "b"}, nil, []string{"", "a", "b", "c"}},
	{api.Span{Lo: of("a", 65)}, nil, []string{"", "a", of("a", 64), of("a", 65), "b"}},
	{api.Span{Hi: of("z", 65)}, nil, []string{"", "a", "b", of("z", 64)}},
	{api.Span{Lo: "a", Hi: of("z", 65)}, nil, []string{"", "a", "b", of("z", 64)}},
}

func TestSp1HasNamed(t *testing.T) {
	for _, c := range keys {
		for _, key := range c.in {
			if !span.Has(c.x, key) {
				t.Errorf("Has(%q, %q) is false", c.x, key)
			}
		}
		for _, key := range c.out {
			if span.Has(c.x, key) {
				t.Errorf("Has(%q, %q) is true", c.x, key)
			}
		}
	}
}

func TestSp1HasAsSaid(t *testing.T) {
	for _, x := range spans() {
		for _, key := range texts() {
			want := mayBe(x) && isKey(key) && within(x, key)
			if got := span.Has(x, key); got != want {
				t.Errorf("Has(%q, %q) is %v", x, key, got)
			}
		}
	}
}

// entries are some of all kinds, in no order, a key more than once, and some whose keys are none.
func entries() []api.Entry {
	l := []api.Entry{
		{Key: "z", Value: "1", Seq: 9}, {Key: "c", Value: "2", Seq: 1}, {Key: "a", Seq: 3}, {Key: "c"},
		{Key: ""}, {Key: of("c", 65), Seq: 2}, {Key: "c", Gone: true, Seq: 7}, {Key: "b", Value: "\n", Seq: -1},
		{Key: "m", Seq: 4}, {Key: "c", Value: "2", Seq: 1}, {Key: "l\xff", Value: of("v", 1000), Seq: api.MaxNumber + 1},
	}
	for i, s := range texts() {
		l = append(l, api.Entry{Key: s, Value: s, Gone: i%3 == 0, Seq: i})
	}
	return l
}

func TestSp1ClipNamed(t *testing.T) {
	l := entries()[:11]
	want := []api.Entry{l[1], l[3], l[6], l[7], l[9], l[10]}
	if got := span.Clip(l, api.Span{Lo: "b", Hi: "m"}); !slices.Equal(got, want) {
		t.Errorf("Clip of b to m is %#v, not %#v", got, want)
	}
	if got := span.Clip(l, api.Span{Lo: "m", Hi: "b"}); len(got) != 0 {
		t.Errorf("Clip of m to b is %#v", got)
	}
	for _, none := range [][]api.Entry{nil, {}, l[:0]} {
		if got := span.Clip(none, api.Span{}); len(got) != 0 {
			t.Errorf("Clip of nothing is %#v", got)
		}
	}
}

func TestSp1ClipAsSaid(t *testing.T) {
	l := entries()
	for _, x := range spans() {
		want := []api.Entry{}
		for _, e := range l {
			if mayBe(x) && isKey(e.Key) && within(x, e.Key) {
				want = append(want, e)
			}
		}
		if got := span.Clip(l, x); !slices.Equal(got, want) {
			t.Fatalf("Clip of %q is %#v, not %#v", x, got, want)
		}
	}
}

// A piece of a list is clipped as it is: what lies behind its end is neither read nor changed, nor is the list itself.
func TestSp1ClipLeavesLists(t *testing.T) {
	for _, x := range []api.Span{{}, {Lo: "b", Hi: "m"}, {Hi: "a"}, {Lo: "zz"}} {
		for n := range len(entries()) {
			l := entries()
			want := span.Clip(slices.Clone(l[:n]), x)
			got := span.Clip(l[:n], x)
			if !slices.Equal(got, want) {
				t.Errorf("Clip of %d of %d to %q is %#v, not %#v", n, len(l), x, got, want)
			}
			for i := range got {
				got[i] = api.Entry{Key: "changed"}
			}
			_ = append(got, api.Entry{Key: "behind"})
			if !slices.Equal(l, entries()) {
				t.Errorf("Clip of %d of %d to %q shares its answer with the list", n, len(l), x)
			}
		}
	}
}

// cuts are ranges, and keys at which they are cut.
var cuts = []struct {
	x    api.Span
	key  string
	a, b api.Span
}{
	{api.Span{Lo: "b", Hi: "m"}, "f", api.Span{Lo: "b", Hi: "f"}, api.Span{Lo: "f", Hi: "m"}},
	{api.Span{}, "f", api.Span{Hi: "f"}, api.Span{Lo: "f"}},
	{api.Span{}, "\x00", api.Span{Hi: "\x00"}, api.Span{Lo: "\x00"}},
	{api.Span{}, of("\xff", 64), api.Span{Hi: of("\xff", 64)}, api.Span{Lo: of("\xff", 64)}},
	{api.Span{Lo: "b"}, "b\x00", api.Span{Lo: "b", Hi: "b\x00"}, api.Span{Lo: "b\x00"}},
	{api.Span{Hi: "b"}, "a\xff", api.Span{Hi: "a\xff"}, api.Span{Lo: "a\xff", Hi: "b"}},
	{api.Span{Lo: of("a", 63), Hi: "b"}, of("a", 64), api.Span{Lo: of("a", 63), Hi: of("a", 64)}, api.Span{Lo: of("a", 64), Hi: "b"}},
}

func TestSp2CutNamed(t *testing.T) {
	for _, c := range cuts {
		if a, b, err := span.Cut(c.x, c.key); a != c.a || b != c.b || err != api.OK {
			t.Errorf("Cut(%q, %q) is %q, %q, %v", c.x, c.key, a, b, err)
		}
	}
}

func TestSp2CutRefused(t *testing.T) {
	for _, c := range []struct {
		x   api.Span
		key string
	}{
		{api.Span{Lo: "b", Hi: "m"}, "b"},
		{api.Span{Lo: "b", Hi: "m"}, "m"},
		{api.Span{Lo: "b", Hi: "m"}, "a"},
		{api.Span{Lo: "b", Hi: "m"}, "z"},
		{api.Span{Lo: "b", Hi: "m"}, ""},
		{api.Span{Lo: "b", Hi: "m"}, of("c", 65)},
		{api.Span{}, ""},
		{api.Span{}, of("c", 65)},
		{api.Span{Hi: "m"}, ""},
		{api.Span{Lo: "b"}, "b"},
		{api.Span{Hi: "\x00"}, "\x00"},
		{api.Span{Lo: "m", Hi: "b"}, "f"},
		{api.Span{Lo: "b", Hi: "b"}, "b"},
		{api.Span{Lo: of("a", 65)}, "f"},
		{api.Span{Hi: of("z", 65)}, "f"},
	} {
		if a, b, err := span.Cut(c.x, c.key); a != (api.Span{}) || b != (api.Span{}) || err != api.ErrArg {
			t.Errorf("Cut(%q, %q) is %q, %q, %v", c.x, c.key, a, b, err)
		}
	}
}

func TestSp2CutAsSaid(t *testing.T) {
	for _, x := range spans() {
		for _, key := range texts() {
			wantA, wantB, want := api.Span{Lo: x.Lo, Hi: key}, api.Span{Lo: key, Hi: x.Hi}, api.OK
			if !mayBe(x) || !isKey(key) || !within(x, key) || key == x.Lo {
				wantA, wantB, want = api.Span{}, api.Span{}, api.ErrArg
			}
			if a, b, err := span.Cut(x, key); a != wantA || b != wantB || err != want {
				t.Errorf("Cut(%q, %q) is %q, %q, %v", x, key, a, b, err)
			}
		}
	}
}

func TestSp2JoinNamed(t *testing.T) {
	for _, c := range []struct{ a, b, want api.Span }{
		{api.Span{Lo: "b", Hi: "f"}, api.Span{Lo: "f", Hi: "m"}, api.Span{Lo: "b", Hi: "m"}},
		{api.Span{Hi: "f"}, api.Span{Lo: "f", Hi: "m"}, api.Span{Hi: "m"}},
		{api.Span{Lo: "b", Hi: "f"}, api.Span{Lo: "f"}, api.Span{Lo: "b"}},
		{api.Span{Hi: "f"}, api.Span{Lo: "f"}, api.Span{}},
		{api.Span{Hi: of("a", 64)}, api.Span{Lo: of("a", 64)}, api.Span{}},
	} {
		if got, err := span.Join(c.a, c.b); got != c.want || err != api.OK {
			t.Errorf("Join(%q, %q) is %q, %v, not %q", c.a, c.b, got, err, c.want)
		}
	}
	for _, c := range []struct{ a, b api.Span }{
		{api.Span{Lo: "f", Hi: "m"}, api.Span{Lo: "b", Hi: "f"}}, // the wrong way round
		{api.Span{Lo: "b", Hi: "f"}, api.Span{Lo: "g", Hi: "m"}}, // something between
		{api.Span{Lo: "b", Hi: "f"}, api.Span{Lo: "e", Hi: "m"}}, // something twice
		{api.Span{Lo: "b", Hi: "f"}, api.Span{Lo: "b", Hi: "f"}},
		{api.Span{Lo: "b"}, api.Span{Lo: "f"}},
		{api.Span{Lo: "b"}, api.Span{Hi: "f"}}, // an empty Hi is no empty Lo
		{api.Span{}, api.Span{}},
		{api.Span{Lo: "g", Hi: "f"}, api.Span{Lo: "f", Hi: "m"}},
		{api.Span{Lo: "f", Hi: "f"}, api.Span{Lo: "f", Hi: "m"}},
		{api.Span{Lo: "b", Hi: "f"}, api.Span{Lo: "f", Hi: "e"}},
		{api.Span{Lo: "b", Hi: "f"}, api.Span{Lo: "f", Hi: "f"}},
		{api.Span{Lo: of("a", 65), Hi: "f"}, api.Span{Lo: "f", Hi: "m"}},
		{api.Span{Lo: "b", Hi: "f"}, api.Span{Lo: "f", Hi: of("m", 65)}},
		{api.Span{Lo: "b", Hi: of("f", 65)}, api.Span{Lo: of("f", 65), Hi: "m"}},
	} {
		if got, err := span.Join(c.a, c.b); got != (api.Span{}) || err != api.ErrArg {
			t.Errorf("Join(%q, %q) is %q, %v", c.a, c.b, got, err)
		}
	}
}

func TestSp2JoinAsSaid(t *testing.T) {
	l := spans()
	for _, a := range l {
		for _, b := range l {
			wanted, want := api.Span{Lo: a.Lo, Hi: b.Hi}, api.OK
			if !mayBe(a) || !mayBe(b) || a.Hi == "" || a.Hi != b.Lo {
				wanted, want = api.Span{}, api.ErrArg
			}
			if got, err := span.Join(a, b); got != wanted || err != want {
				t.Fatalf("Join(%q, %q) is %q, %v", a, b, got, err)
			}
		}
	}
}

func TestSp2MeetNamed(t *testing.T) {
	x := api.Span{Lo: "b", Hi: "m"}
	for _, c := range []struct {
		a, b, want api.Span
		ok         bool
	}{
		{x, x, x, true},
		{x, api.Span{}, x, true},
		{api.Span{}, api.Span{}, api.Span{}, true},
		{x, api.Span{Lo: "k"}, api.Span{Lo: "k", Hi: "m"}, true},
		{x, api.Span{Hi: "c"}, api.Span{Lo: "b", Hi: "c"}, true},
		{x, api.Span{Lo: "c", Hi: "d"}, api.Span{Lo: "c", Hi: "d"}, true},
		{x, api.Span{Lo: "a", Hi: "c"}, api.Span{Lo: "b", Hi: "c"}, true},
		{x, api.Span{Lo: "c", Hi: "z"}, api.Span{Lo: "c", Hi: "m"}, true},
		{x, api.Span{Lo: "b", Hi: "z"}, x, true},
		{x, api.Span{Hi: "b\x00"}, api.Span{Lo: "b", Hi: "b\x00"}, true},
		{api.Span{Lo: "b"}, api.Span{Lo: "f"}, api.Span{Lo: "f"}, true},
		{api.Span{Hi: "b"}, api.Span{Hi: "f"}, api.Span{Hi: "b"}, true},
		{api.Span{Hi: "\x00"}, api.Span{Hi: "\x00"}, api.Span{Hi: "\x00"}, true},
		{x, api.Span{Lo: "m"}, api.Span{}, false},
		{x, api.Span{Lo: "z"}, api.Span{}, false},
		{x, api.Span{Hi: "b"}, api.Span{}, false},
		{x, api.Span{Hi: "a"}, api.Span{}, false},
		{x, api.Span{Lo: "m", Hi: "z"}, api.Span{}, false},
		{api.Span{Lo: "c", Hi: "d"}, api.Span{Lo: "f", Hi: "g"}, api.Span{}, false},
		{x, api.Span{Lo: "f", Hi: "f"}, api.Span{}, false},
		{x, api.Span{Lo: "z", Hi: "a"}, api.Span{}, false},
		{x, api.Span{Lo: "l", Hi: "c"}, api.Span{}, false},
		{x, api.Span{Lo: of("c", 65)}, api.Span{}, false},
		{x, api.Span{Hi: of("c", 65)}, api.Span{}, false},
		{api.Span{}, api.Span{Lo: of("c", 65), Hi: "m"}, api.Span{}, false},
	} {
		if got, ok := span.Meet(c.a, c.b); got != c.want || ok != c.ok {
			t.Errorf("Meet(%q, %q) is %q, %v, not %q, %v", c.a, c.b, got, ok, c.want, c.ok)
		}
		if got, ok := span.Meet(c.b, c.a); got != c.want || ok != c.ok {
			t.Errorf("Meet(%q, %q) is %q, %v, not %q, %v", c.b, c.a, got, ok, c.want, c.ok)
		}
	}
}

// meet is what the document says of Meet, word by word.
func meet(a, b api.Span) (api.Span, bool) {
	if !mayBe(a) || !mayBe(b) {
		return api.Span{}, false
	}
	x := a
	if stands(a.Lo, b.Lo) {
		x.Lo = b.Lo
	}
	if a.Hi == "" || b.Hi != "" && stands(b.Hi, a.Hi) {
		x.Hi = b.Hi
	}
	if x.Hi != "" && !stands(x.Lo, x.Hi) {
		return api.Span{}, false
	}
	return x, true
}

func TestSp2MeetAsSaid(t *testing.T) {
	l := spans()
	for _, a := range l {
		for _, b := range l {
			wanted, want := meet(a, b)
			if got, ok := span.Meet(a, b); got != wanted || ok != want {
				t.Fatalf("Meet(%q, %q) is %q, %v, not %q, %v", a, b, got, ok, wanted, want)
			}
		}
	}
}

// short are ranges from, and up to, texts of few bytes.
func short() []api.Span {
	l := []api.Span{}
	for _, lo := range []string{"", "\x00", "a", "ab", "b", "\xff", of("a", 65)} {
		for _, hi := range []string{"", "\x00", "a", "ab", "b", "\xff", of("z", 65)} {
			l = append(l, api.Span{Lo: lo, Hi: hi})
		}
	}
	return l
}

// The keys of what two ranges have in common are those within both; where there is nothing, no key is.
func TestSp2MeetHasKeysOfBoth(t *testing.T) {
	for _, a := range short() {
		for _, b := range short() {
			x, ok := span.Meet(a, b)
			if ok && span.Check(x) != api.OK {
				t.Errorf("Meet(%q, %q) is %q, that may not be", a, b, x)
			}
			for _, key := range texts() {
				want := span.Has(a, key) && span.Has(b, key)
				if got := ok && span.Has(x, key); got != want {
					t.Errorf("Meet(%q, %q) is %q, %v: %q is within: %v", a, b, x, ok, key, got)
				}
			}
		}
	}
}

func TestSp2CoversNamed(t *testing.T) {
	for _, l := range [][]api.Span{
		{{}},
		{{Hi: "c"}, {Lo: "c"}},
		{{Hi: "\x00"}, {Lo: "\x00"}},
		{{Hi: "c"}, {Lo: "c", Hi: "d"}, {Lo: "d"}},
		{{Hi: "c"}, {Lo: "c", Hi: "c\x00"}, {Lo: "c\x00", Hi: of("c", 64)}, {Lo: of("c", 64)}},
	} {
		if !span.Covers(l) {
			t.Errorf("Covers(%q) is false", l)
		}
	}
	for _, l := range [][]api.Span{
		nil,
		{},
		{{Lo: "a"}},
		{{Hi: "c"}},
		{{}, {}},
		{{Hi: "c"}, {Lo: "d"}},          // something between
		{{Hi: "c"}, {Lo: "b"}},          // something twice
		{{Lo: "c"}, {Hi: "c"}},          // the wrong way round
		{{Lo: "a", Hi: "c"}, {Lo: "c"}}, // not from the beginning
		{{Hi: "c"}, {Lo: "c", Hi: "d"}}, // not to the end
		{{Hi: "c"}, {Lo: "c"}, {}},      // behind the end
		{{Hi: "c"}, {Lo: "c"}, {Hi: "c"}, {Lo: "c"}},   // all twice
		{{Hi: "c"}, {Lo: "c"}, {Lo: "d"}},              // behind the end
		{{Hi: "c"}, {}},                                // anew
		{{}, {Hi: "c"}, {Lo: "c"}},                     // anew
		{{Hi: "c"}, {Hi: "c"}, {Lo: "c"}},              // one twice
		{{Hi: "c"}, {Lo: "c", Hi: "c"}, {Lo: "c"}},     // one that may not be
		{{Hi: "c"}, {Lo: "c", Hi: "b"}, {Lo: "b"}},     // one that may not be
		{{Hi: of("c", 65)}, {Lo: of("c", 65)}},         // two that may not be
		{{Hi: "d"}, {Lo: "d", Hi: "f"}, {Lo: "c"}, {}}, // something twice
		{{Hi: "c"}, {Lo: "d", Hi: "f"}, {Lo: "c"}},     // the last one from the first one on
		{{Hi: "c"}, {Lo: "c", Hi: "d"}, {Lo: "d", Hi: ""}, {Lo: "", Hi: ""}},
	} {
		if span.Covers(l) {
			t.Errorf("Covers(%q) is true", l)
		}
	}
}

// covers is what the document says of Covers, word by word.
func covers(l []api.Span) bool {
	for i, x := range l {
		if !mayBe(x) {
			return false
		}
		if i > 0 && (l[i-1].Hi == "" || x.Lo != l[i-1].Hi) {
			return false
		}
	}
	return len(l) > 0 && l[0].Lo == "" && l[len(l)-1].Hi == ""
}

// All lists of up to three ranges, of which each may be any.
func TestSp2CoversAsSaid(t *testing.T) {
	pool := short()
	look := func(l ...api.Span) {
		if got, want := span.Covers(l), covers(l); got != want {
			t.Errorf("Covers(%q) is %v", l, got)
		}
	}
	for _, a := range pool {
		look(a)
		for _, b := range pool {
			look(a, b)
			for _, c := range pool {
				look(a, b, c)
			}
		}
	}
}

// ordered are keys, rising, each once.
func ordered() []string {
	l := slices.DeleteFunc(texts(), func(s string) bool { return !isKey(s) })
	for i := range 300 {
		l = append(l, string([]byte{byte(i * 7), byte(i * 13), byte(i)}))
	}
	sort.Slice(l, func(i, j int) bool { return stands(l[i], l[j]) })
	return slices.Compact(l)
}

// pieces are the whole range, cut at each of some rising keys.
func pieces(t *testing.T, at []string) []api.Span {
	l := []api.Span{}
	rest := api.Span{}
	for _, key := range at {
		a, b, err := span.Cut(rest, key)
		if err != api.OK {
			t.Fatalf("Cut(%q, %q) is refused: %v", rest, key, err)
		}
		l, rest = append(l, a), b
	}
	return append(l, rest)
}

func TestSp3CutIsJoinedAsItWas(t *testing.T) {
	for _, x := range spans() {
		for _, key := range texts() {
			a, b, err := span.Cut(x, key)
			if err != api.OK {
				continue
			}
			if got, err := span.Join(a, b); got != x || err != api.OK {
				t.Errorf("Join of Cut(%q, %q) is %q, %v", x, key, got, err)
			}
			if got, ok := span.Meet(a, b); ok {
				t.Errorf("Meet of Cut(%q, %q) is %q", x, key, got)
			}
			for _, k := range texts() {
				if span.Has(x, k) != (span.Has(a, k) != span.Has(b, k)) {
					t.Errorf("Cut(%q, %q): %q is within: %v, %v", x, key, k, span.Has(a, k), span.Has(b, k))
				}
			}
		}
	}
}

func TestSp3EachKeyIsWithinJustOne(t *testing.T) {
	all := ordered()
	for _, every := range []int{1, 2, 3, 10, 100, 1000} {
		at := []string{}
		for i := 0; i < len(all); i += every {
			at = append(at, all[i])
		}
		l := pieces(t, at)
		if !span.Covers(l) {
			t.Fatalf("Covers of the pieces of %d cuts is false", len(at))
		}
		for _, key := range append(slices.Clone(all), "b", "b\x00\x00", of("\xff", 64)) {
			n := 0
			for _, x := range l {
				if span.Has(x, key) {
					n++
				}
			}
			if n != 1 {
				t.Errorf("%q is within %d of the pieces of %d cuts", key, n, len(at))
			}
		}
	}
}

func TestSp3PiecesAreJoinedToTheWhole(t *testing.T) {
	l := pieces(t, ordered())
	whole := l[0]
	for _, x := range l[1:] {
		var err api.Errno
		if whole, err = span.Join(whole, x); err != api.OK {
			t.Fatalf("Join with %q is refused: %v", x, err)
		}
	}
	if whole != (api.Span{}) {
		t.Errorf("all pieces are joined to %q", whole)
	}
}

// Ranges that cover do no more when one is taken out, is there twice, or two stand the other way round; no list is changed.
func TestSp3OthersDoNotCover(t *testing.T) {
	l := pieces(t, ordered()[:12])
	for i := range l {
		less := slices.Delete(slices.Clone(l), i, i+1)
		if span.Covers(less) {
			t.Errorf("Covers of pieces without the one at %d is true", i)
		}
		if span.Covers(slices.Insert(slices.Clone(l), i, l[i])) {
			t.Errorf("Covers of pieces with the one at %d twice is true", i)
		}
		for j := range i {
			turned := slices.Clone(l)
			turned[i], turned[j] = turned[j], turned[i]
			if span.Covers(turned) {
				t.Errorf("Covers of pieces with those at %d and %d the other way round is true", j, i)
			}
		}
		if span.Covers(l[:i]) { // what lies behind the list's end is not read
			t.Errorf("Covers of the first %d pieces is true", i)
		}
	}
	if !slices.Equal(l, pieces(t, ordered()[:12])) {
		t.Error("Covers changed a list")
	}
}

// Of entries that are clipped to ranges that cover each one whose key is a key is in just one, in its order.
func TestSp3EntriesAreSharedOut(t *testing.T) {
	l := entries()
	n := 0
	for _, x := range pieces(t, ordered()) {
		for _, e := range span.Clip(l, x) {
			if !slices.Contains(l, e) || !span.Has(x, e.Key) {
				t.Errorf("Clip to %q has %q", x, e.Key)
			}
			n++
		}
	}
	if want := len(span.Clip(l, api.Span{})); n != want {
		t.Errorf("the pieces have %d entries, not %d", n, want)
	}
}
