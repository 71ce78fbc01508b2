package book_test

import (
	"fmt"
	"math"
	"slices"
	"strings"
	"testing"

	"sorrel/api"
	"sorrel/book"
	"sorrel/frame"
	"sorrel/fs"
	"sorrel/wal"
)

// The limits and errors, as the chapters say them.
const (
	mostNumber = 1<<40 - 1
	mostIds    = 64

	errArg = api.Errno(1)
	errOff = api.Errno(50)
)

// says is what a book has.
type says struct {
	move int
	ids  []int
}

// same tells whether two books have the same.
func (x says) same(y says) bool {
	return x.move == y.move && slices.Equal(x.ids, y.ids)
}

// plain is what the chapter says of a book on a disk that lasts, word by word.
type plain struct {
	says
}

func (p *plain) set(move int, ids []int) api.Errno {
	if move < p.move || move > mostNumber || len(ids) > mostIds {
		return errArg
	}
	for i, id := range ids {
		if id < 1 || id > mostNumber || i > 0 && ids[i-1] >= id {
			return errArg
		}
	}
	p.says = says{move: move, ids: slices.Clone(ids)}
	return api.OK
}

// bytesOf is what layer 1's chapter says of a number's bytes.
func bytesOf(n int) string {
	var b []byte
	for n >= 128 {
		b = append(b, byte(n%128+128))
		n /= 128
	}
	return string(append(b, byte(n)))
}

// numbers are several numbers' bytes.
func numbers(l ...int) string {
	s := ""
	for _, n := range l {
		s += bytesOf(n)
	}
	return s
}

// record is what the chapter says of a record, word by word.
func record(x says) string {
	return numbers(append([]int{x.move, len(x.ids)}, x.ids...)...)
}

// upto are so many numbers, each one more than the one ahead.
func upto(first, n int) []int {
	var l []int
	for i := range n {
		l = append(l, first+i)
	}
	return l
}

// noise are numbers below n, the same each time.
func noise(seed uint32) func(n int) int {
	return func(n int) int {
		seed = seed*1664525 + 1013904223
		return int(seed>>8) % n
	}
}

// ok ends a test, if one of some calls was refused.
func ok(t *testing.T, l ...api.Errno) {
	t.Helper()
	for i, err := range l {
		if err != api.OK {
			t.Fatalf("the call at the place %d answered %d", i, err)
		}
	}
}

// is tells what is not as it should be.
func is[V comparable](t *testing.T, what string, got, want V) {
	t.Helper()
	if got != want {
		t.Errorf("%s: %v, not %v", what, got, want)
	}
}

// open is the book of a disk.
func open(t *testing.T, d *fs.Disk) *book.Book {
	t.Helper()
	b, err := book.Open(d)
	if b == nil || err != api.OK {
		t.Fatalf("Open answered %v, %d", b, err)
	}
	return b
}

// notOpened tells an Open that was not refused so.
func notOpened(t *testing.T, what string, d *fs.Disk, want api.Errno) {
	t.Helper()
	if b, err := book.Open(d); b != nil || err != want {
		t.Errorf("%s: Open answered %v, %d; not %d", what, b, err, want)
	}
}

// of is what a book has.
func of(b *book.Book) says {
	return says{move: b.Move(), ids: b.Ids()}
}

// has tells a book that does not have what it should.
func has(t *testing.T, b *book.Book, want says) {
	t.Helper()
	if got := of(b); !got.same(want) {
		t.Errorf("the book has %v, not %v", got, want)
	}
}

// files are those of a disk, each with its name, and how many of its bytes are sure.
func files(d *fs.Disk) []string {
	var l []string
	for _, name := range d.Names() {
		s, _ := d.Read(name)
		sure, _ := d.Sure(name)
		l = append(l, fmt.Sprintf("%s %d %q", name, sure, s))
	}
	return l
}

// unchanged tells a disk that has other files than it had.
func unchanged(t *testing.T, what string, d *fs.Disk, had []string) {
	t.Helper()
	if got := files(d); !slices.Equal(got, had) {
		t.Errorf("%s: the files are %.300q, not %.300q", what, got, had)
	}
}

// twin is a disk with the same files.
func twin(t *testing.T, d *fs.Disk) *fs.Disk {
	t.Helper()
	c := fs.New()
	for _, name := range d.Names() {
		s, err := d.Read(name)
		ok(t, err)
		n, err := d.Sure(name)
		ok(t, err, c.Make(name), c.Append(name, s[:n]), c.Sync(name), c.Append(name, s[n:]))
	}
	return c
}

// offBy takes a disk's power.
func offBy(t *testing.T, d *fs.Disk) {
	t.Helper()
	ok(t, d.Fuse(0))
	is(t, "a doing behind a fuse of 0", d.Make("x"), errOff)
}

// name is what a file of a log is called.
func name(n int) string {
	return fmt.Sprintf("log-%08d", n)
}

// lay makes a file of a log, with texts, all of them sure.
func lay(t *testing.T, d *fs.Disk, n int, texts ...string) {
	t.Helper()
	ok(t, d.Make(name(n)))
	for _, s := range texts {
		f, err := frame.Put(s)
		ok(t, err, d.Append(name(n), f))
	}
	ok(t, d.Sync(name(n)))
}

// laid is a disk with a log of one file.
func laid(t *testing.T, texts ...string) *fs.Disk {
	t.Helper()
	d := fs.New()
	lay(t, d, 0, texts...)
	return d
}

// records are the texts of a disk's log.
func records(t *testing.T, d *fs.Disk) []string {
	t.Helper()
	l, err := wal.Open(twin(t, d), 0)
	ok(t, err)
	return l.All()
}

func TestR1NoBook(t *testing.T) {
	b := open(t, fs.New())
	ok(t, b.Set(3, []int{1, 2}))
	copied := *b
	for _, x := range []*book.Book{nil, {}, &copied} {
		has(t, x, says{})
		if l := x.Ids(); l != nil {
			t.Errorf("Ids are %v", l)
		}
		is(t, "Set", x.Set(3, []int{1}), errArg)
		is(t, "Set of none", x.Set(3, nil), errArg)
	}
	has(t, b, says{3, []int{1, 2}})
}

func TestR1NoDisk(t *testing.T) {
	d := fs.New()
	lay(t, d, 0, record(says{3, []int{1}}))
	had := files(d)
	copied := *d
	for _, x := range []*fs.Disk{nil, {}, &copied} {
		notOpened(t, "no disk", x, errArg)
	}
	unchanged(t, "no disk", d, had)
}

// All calls end, and none panics, also behind a call that the disk refused, and on a disk that crashed, or whose files are others meanwhile.
func TestR1Broken(t *testing.T) {
	calls := func(b *book.Book) {
		for n := range 150 {
			b.Set(b.Move()+n%2, upto(n+1, n%70))
			b.Move()
			b.Ids()
		}
	}
	for i, breaks := range []func(d *fs.Disk){
		func(d *fs.Disk) { d.Fuse(0) },
		func(d *fs.Disk) { d.Fuse(1) },
		func(d *fs.Disk) { d.Fuse(200) },
		func(d *fs.Disk) { d.Crash(nil) },
		func(d *fs.Disk) {
			for _, name := range d.Names() {
				d.Remove(name)
			}
		},
		func(d *fs.Disk) {
			for n := range 300 {
				d.Make(fmt.Sprint("x", n))
			}
		},
		func(d *fs.Disk) {
			for n := range 300 {
				d.Make(name(n))
			}
		},
		func(d *fs.Disk) { d.Make(name(99999998)) },
		func(d *fs.Disk) { d.Append(d.Names()[0], strings.Repeat("x", 1<<22)) },
	} {
		d := fs.New()
		b := open(t, d)
		ok(t, b.Set(1, []int{1, 2}))
		breaks(d)
		calls(b)
		d.Crash([]int{i})
		calls(b)
		if b, err := book.Open(d); err == api.OK {
			calls(b)
		} else if b != nil {
			t.Errorf("%d: Open answered %v beside %d", i, b, err)
		}
	}
}

// A disk without room for a file more is refused as layer 5 says, and left as it is.
func TestR2NoRoom(t *testing.T) {
	d := laid(t, record(says{3, []int{1}}))
	for n := range 255 {
		ok(t, d.Make(fmt.Sprint("x", n)))
	}
	had := files(d)
	notOpened(t, "full", d, api.ErrFull)
	unchanged(t, "full", d, had)
	ok(t, d.Remove("x0"))
	has(t, open(t, d), says{3, []int{1}})

	d = laid(t, record(says{3, []int{1}}))
	lay(t, d, 99999998)
	had = files(d)
	notOpened(t, "no number above", d, api.ErrFull)
	unchanged(t, "no number above", d, had)
}

func TestR3Lists(t *testing.T) {
	room := []int{4, 9, 7, 8, 5}
	handed := room[:2]
	d := fs.New()
	b := open(t, d)
	ok(t, b.Set(1, handed))
	is(t, "what was handed in", fmt.Sprint(room), "[4 9 7 8 5]")
	room[0], room[2] = 1, 1 // it was not kept
	has(t, b, says{1, []int{4, 9}})
	l := b.Ids()
	l[0], l[1] = 5, 5
	_ = append(l, 5)
	has(t, b, says{1, []int{4, 9}})
	one, other := b.Ids(), b.Ids()
	one[0] = 7
	is(t, "another list", other[0], 4)
	for _, none := range [][]int{nil, {}, room[:0]} {
		ok(t, b.Set(1, []int{3}), b.Set(1, none))
		has(t, b, says{1, nil})
		has(t, open(t, twin(t, d)), says{1, nil})
	}
	ok(t, b.Set(1, room[4:]))
	l = b.Ids()
	has(t, open(t, d), says{1, []int{5}})
	l[0] = 6
	has(t, b, says{1, []int{5}})
}

func TestBo1First(t *testing.T) {
	d := fs.New()
	has(t, open(t, d), says{})
	has(t, open(t, d), says{}) // and again, with the files of the first time
	ok(t, d.Crash(nil))
	has(t, open(t, d), says{})

	d = fs.New() // other files are left alone
	for _, name := range []string{"a", "log-", "log-0", "log-99999999", "log-0000000a", "log-000000000", "zz"} {
		ok(t, d.Make(name), d.Append(name, "x"))
	}
	had := files(d)
	b := open(t, d)
	has(t, b, says{})
	for n := range 100 {
		ok(t, b.Set(n, []int{n + 1}))
	}
	has(t, open(t, d), says{99, []int{100}})
	for _, x := range had {
		if !slices.Contains(files(d), x) {
			t.Errorf("there is no %s any more", x)
		}
	}
}

// Example 1.
func TestBo1Example(t *testing.T) {
	d := fs.New()
	b := open(t, d)
	ok(t, b.Set(3, []int{1, 2}), d.Crash(nil))
	has(t, open(t, d), says{3, []int{1, 2}})
}

func TestBo1OpenOff(t *testing.T) {
	d := fs.New()
	offBy(t, d)
	notOpened(t, "no file, off", d, errOff)
	ok(t, d.Crash(nil), d.Fuse(0))
	notOpened(t, "no file, going off", d, errOff)
	is(t, "whether it is off", d.Off(), true)
	ok(t, d.Crash(nil))
	has(t, open(t, d), says{})

	d = laid(t, record(says{3, []int{1, 2}}))
	offBy(t, d)
	had := d.Names()
	notOpened(t, "off", d, errOff)
	is(t, "the names", fmt.Sprint(d.Names()), fmt.Sprint(had))
	ok(t, d.Crash(nil))
	has(t, open(t, d), says{3, []int{1, 2}})
}

// What is found wrong is found ahead of all doings.
func TestBo1OpenArgThenOff(t *testing.T) {
	d := laid(t, record(says{3, []int{1, 2}}), "x")
	ok(t, d.Fuse(0))
	notOpened(t, "going off, and no record", d, errArg)
	is(t, "whether it is off", d.Off(), false)
}

// rights are what a book may have, with each number at its limits.
func rights() []says {
	return []says{
		{}, {0, []int{1}}, {1, nil}, {mostNumber, nil}, {127, []int{127, 128}}, {128, []int{1, 2, 3}},
		{5, []int{mostNumber}}, {5, []int{1, mostNumber - 1, mostNumber}}, {16384, []int{16383, 16384, 1 << 35}},
		{7, upto(1, 63)}, {7, upto(1, 64)}, {mostNumber, upto(mostNumber-63, 64)},
	}
}

// wrongs are such as a book may not have, whatever it had.
func wrongs() []says {
	return []says{
		{mostNumber + 1, nil}, {1 << 62, nil}, {mostNumber + 1, []int{1}},
		{1, []int{0}}, {1, []int{0, 1}}, {1, []int{mostNumber + 1}}, {1, []int{1, mostNumber + 1}}, {1, []int{1, 1 << 62}},
		{1, []int{1, 1}}, {1, []int{2, 1}}, {1, []int{1, 3, 2}}, {1, []int{1, 3, 3}}, {1, []int{1, 2, 0}},
		{1, upto(1, 65)}, {1, upto(0, 64)}, {1, upto(mostNumber-62, 64)}, {1, append(upto(1, 63), 63)}, {1, upto(1, 300)},
	}
}

func TestBo1OpenRecords(t *testing.T) {
	for _, x := range rights() {
		d := laid(t, record(x))
		b := open(t, d)
		has(t, b, x)
		ok(t, d.Crash(nil))
		has(t, open(t, d), x)
		for _, y := range rights() { // the last one counts
			if y.move < x.move {
				continue
			}
			has(t, open(t, laid(t, record(x), record(y))), y)
			d := laid(t, record(x))
			lay(t, d, 1, record(y))
			lay(t, d, 5)
			has(t, open(t, d), y)
			has(t, open(t, d), y)
		}
	}
	d := laid(t, record(says{3, nil}), record(says{4, []int{1}}))
	ok(t, d.Append(name(0), "\x02\x01"), d.Sync(name(0))) // no frame: it is none of the file's texts
	has(t, open(t, d), says{4, []int{1}})
}

// texts are such as are no record of what Set takes.
func texts() []string {
	l := []string{"", "\x00", "\x80", "\x00\x80", "\x00\x80\x00", "\x80\x00\x00", "\x00\x01\x81\x00", "\x00\x01\x81", "\x01\x02\x01", "\x01\x00\x01", "\x01\x00\x00", "\x01\x01\x01\x02"}
	l = append(l, numbers(1, 1<<62), numbers(1, 1<<61, 1), numbers(1, mostIds+1), strings.Repeat("\xff", 20), strings.Repeat("\x00", 20), "\x01"+strings.Repeat("\xff", 8)+"\x7f")
	l = append(l, strings.Repeat("x", 1<<17))
	for _, x := range wrongs() {
		l = append(l, record(x))
	}
	for _, x := range rights() {
		s := record(x)
		for i := range len(s) { // what is cut off
			l = append(l, s[:i])
		}
		l = append(l, s+"\x00", s+"\x01", s+s)
	}
	return l
}

// right tells whether a text is a record of what Set takes.
func right(s string) bool {
	for _, x := range rights() {
		if s == record(x) {
			return true
		}
	}
	return false
}

func TestBo1OpenNoRecord(t *testing.T) {
	one := record(says{3, []int{1}})
	n := 0
	for _, s := range texts() {
		if right(s) { // cut off, or twice, it may be another one
			continue
		}
		n++
		for i, d := range []*fs.Disk{laid(t, s), laid(t, s, one), laid(t, one, s), laid(t, one, s, one), laid(t, one, one), laid(t, s)} {
			switch i {
			case 4:
				lay(t, d, 7, s)
				lay(t, d, 8)
			case 5:
				lay(t, d, 2, one)
				lay(t, d, 3, one)
			}
			had := files(d)
			notOpened(t, fmt.Sprintf("%.40q at %d", s, i), d, errArg)
			unchanged(t, fmt.Sprintf("%.40q at %d", s, i), d, had)
		}
	}
	if n < 300 {
		t.Errorf("there are %d texts", n)
	}
}

func TestBo1Set(t *testing.T) {
	for _, x := range rights() {
		d := fs.New()
		b := open(t, d)
		ok(t, b.Set(x.move, x.ids))
		has(t, b, x)
		l := records(t, d)
		is(t, "the last record", l[len(l)-1], record(x))
		had := files(d)
		for _, y := range append(wrongs(), says{x.move - 1, nil}, says{x.move - 1, []int{1}}, says{-1, nil}, says{math.MinInt, nil}, says{math.MaxInt, nil}, says{x.move, []int{-1}}, says{x.move, []int{math.MinInt, 1}}, says{x.move, []int{1, math.MaxInt}}) {
			is(t, fmt.Sprintf("Set(%d, %d) of %d", y.move, y.ids, x.move), b.Set(y.move, y.ids), errArg)
			has(t, b, x)
		}
		unchanged(t, "refused", d, had)
		ok(t, d.Crash(nil))
		has(t, open(t, d), x)
	}
}

// All lists of up to three small numbers, by moves beside the book's.
func TestBo1SetShort(t *testing.T) {
	d := fs.New()
	b := open(t, d)
	p := &plain{}
	set := func(move int, ids ...int) {
		t.Helper()
		is(t, fmt.Sprintf("Set(%d, %d) of %d", move, ids, p.move), b.Set(move, ids), p.set(move, ids))
		has(t, b, p.says)
	}
	for i := -1; i < 4; i++ {
		set(p.move, i)
		for j := -1; j < 4; j++ {
			set(p.move+i, i, j)
			for k := -1; k < 4; k++ {
				set(p.move+k, i, j, k)
				set(p.move, i, j, k)
			}
		}
	}
	has(t, open(t, d), p.says)
	is(t, "the last move", p.move, 7)
}

func TestBo1SetOff(t *testing.T) {
	had := says{3, []int{1, 2}}
	for _, x := range []says{had, {3, nil}, {4, []int{9}}} {
		d := fs.New()
		b := open(t, d)
		ok(t, b.Set(had.move, had.ids))
		offBy(t, d)
		is(t, "Set, off", b.Set(x.move, x.ids), errOff)
		is(t, "Set of what may not be, off", b.Set(2, nil), errArg)
		is(t, "Set of what may not be, off", b.Set(4, []int{0}), errArg)
		ok(t, d.Crash(nil))
		has(t, open(t, d), had)

		d = fs.New()
		b = open(t, d)
		ok(t, b.Set(had.move, had.ids), d.Fuse(0))
		is(t, "Set of what may not be, going off", b.Set(2, nil), errArg)
		is(t, "whether it is off", d.Off(), false)
		is(t, "Set, going off", b.Set(x.move, x.ids), errOff)
		is(t, "whether it is off", d.Off(), true)
		ok(t, d.Crash(nil))
		has(t, open(t, d), had)
	}
}

// by is what may be set, or may not, by chance.
func by(n func(int) int, p *plain) (int, []int) {
	var ids []int
	id := 0
	for range []int{0, 1, 3, 20, 64, 66}[n(6)] {
		id += 1 + n(3)
		ids = append(ids, id)
	}
	if len(ids) > 0 && n(6) == 0 {
		ids[n(len(ids))] = []int{-1, 0, 1, mostNumber, mostNumber + 1}[n(5)]
	}
	return p.move + []int{0, 1, 1, 2, 900, -1}[n(6)], ids
}

func TestBo1ByChance(t *testing.T) {
	t.Parallel()
	for seed := range uint32(20) {
		n := noise(seed)
		d := fs.New()
		b, p := open(t, d), &plain{}
		for range 300 {
			switch n(10) {
			case 0:
				b = open(t, d)
			case 1:
				ok(t, d.Crash([]int{n(3)}))
				b = open(t, d)
			default:
				move, ids := by(n, p)
				is(t, fmt.Sprintf("Set(%d, %d) of %d", move, ids, p.move), b.Set(move, ids), p.set(move, ids))
			}
			has(t, b, p.says)
		}
		is(t, "a move was heard of", p.move > 1000, true)
	}
}

// A log stays small, however often it is set, or opened.
func TestBo1Small(t *testing.T) {
	d := fs.New()
	b := open(t, d)
	small := func() {
		t.Helper()
		size := 0
		for _, name := range d.Names() {
			s, _ := d.Read(name)
			size += len(s)
		}
		if len(d.Names()) > 4 || size > 1<<17 {
			t.Fatalf("there are %d files, of %d bytes", len(d.Names()), size)
		}
	}
	for n := range 2000 {
		ok(t, b.Set(n, upto(mostNumber-63, 64)))
		small()
	}
	for range 600 {
		has(t, open(t, d), says{1999, upto(mostNumber-63, 64)})
		small()
	}
	for n := range 600 {
		b = open(t, d)
		ok(t, b.Set(2000+n, []int{n + 1}))
		small()
	}
	has(t, open(t, d), says{2599, []int{600}})
}

// script are sets, so many that the log goes on in several files, with the book opened anew now and then.
func script() []says {
	var l []says
	for n := range 140 {
		l = append(l, says{n / 2, upto(n+1, n%5)})
	}
	return l
}

// run sets what a script says, and opens the book anew ahead of some: what was set last, and what was being set when the power went off.
func run(t *testing.T, d *fs.Disk, l []says) (last, being says, off bool) {
	t.Helper()
	var b *book.Book
	for i, x := range l {
		if i%50 == 0 {
			var err api.Errno
			if b, err = book.Open(d); err != api.OK {
				is(t, "Open", err, errOff)
				return last, last, true
			}
			has(t, b, last)
		}
		err := b.Set(x.move, x.ids)
		is(t, "whether it is off", d.Off(), err == errOff)
		if err != api.OK {
			is(t, "Set", err, errOff)
			return last, x, true
		}
		last = x
	}
	return last, last, false
}

func TestBo2EachDoing(t *testing.T) {
	t.Parallel()
	l := script()
	for _, keep := range [][]int{nil, {0}, {1}, {3, 1}, {7}, {1000}, {0, 1000}, {1000, 0}} {
		old, being := 0, 0
		for fuse := 0; ; fuse++ {
			d := fs.New()
			ok(t, d.Fuse(fuse))
			last, next, off := run(t, d, l)
			is(t, "whether it is off", d.Off(), off)
			if !off {
				break
			}
			ok(t, d.Crash(keep))
			b := open(t, d)
			switch got := of(b); {
			case got.same(last):
				old++
			case got.same(next):
				being++
			default:
				t.Fatalf("%d, %v: the book has %v, neither %v nor %v", fuse, keep, got, last, next)
			}
			had := of(b)
			ok(t, d.Crash(nil)) // it is kept now
			b = open(t, d)
			has(t, b, had)
			ok(t, b.Set(had.move+1, []int{5}), d.Crash(nil))
			has(t, open(t, d), says{had.move + 1, []int{5}})
		}
		if old < 100 || len(keep) == 1 && keep[0] == 1000 && being < 100 {
			t.Errorf("%v: the book had what it had %d times, what was being set %d times", keep, old, being)
		}
	}
}

// The power goes off at each doing of an Open, of books of which the log is as a crash leaves it.
func TestBo2Open(t *testing.T) {
	one, two := says{3, []int{1}}, says{4, []int{1, 2}}
	var disks []*fs.Disk
	for fuse := range 12 {
		for _, keep := range []int{0, 2, 1000} {
			d := laid(t, record(says{2, nil}), record(one))
			ok(t, d.Fuse(fuse))
			b, err := book.Open(d)
			if err == api.OK {
				b.Set(two.move, two.ids)
			}
			ok(t, d.Crash([]int{keep}))
			disks = append(disks, d)
		}
	}
	d := laid(t, record(one))
	lay(t, d, 1)
	lay(t, d, 2, record(two))
	lay(t, d, 3)
	ok(t, d.Append(name(3), "\x03\x04"), d.Sync(name(3)))
	lay(t, d, 4)
	disks = append(disks, d)
	for i, d := range disks {
		want := of(open(t, twin(t, d)))
		for fuse := 0; ; fuse++ {
			c := twin(t, d)
			ok(t, c.Fuse(fuse))
			b, err := book.Open(c)
			if err == api.OK {
				break
			}
			is(t, "Open", err, errOff)
			if b != nil {
				t.Errorf("%d: Open answered %v", i, b)
			}
			ok(t, c.Crash(nil))
			has(t, open(t, c), want)
		}
	}
}

// What is answered is kept, though it was not sure yet when the book was opened.
func TestBo2OpenSure(t *testing.T) {
	d := laid(t, record(says{3, []int{1}}))
	l, err := wal.Open(d, 0)
	ok(t, err, l.Add(record(says{4, []int{2}})))
	has(t, open(t, d), says{4, []int{2}})
	ok(t, d.Crash(nil))
	has(t, open(t, d), says{4, []int{2}})
}

// However often the power fails while a book is opened, or set, the disk is never full of its files.
func TestBo2AgainAndAgain(t *testing.T) {
	t.Parallel()
	for _, most := range []int{1, 2, 3, 4, 5, 9} {
		d := fs.New()
		n := noise(uint32(most))
		last := says{3, []int{1, 2}}
		ok(t, open(t, d).Set(last.move, last.ids))
		for range 900 {
			next := says{last.move + 1, upto(1, n(9))}
			ok(t, d.Fuse(n(most)))
			b, err := book.Open(d)
			if err == api.OK {
				b.Set(next.move, next.ids)
			}
			ok(t, d.Crash([]int{n(12), n(12)}))
			got := of(open(t, twin(t, d)))
			if !got.same(last) && (b == nil || !got.same(next)) {
				t.Fatalf("the book has %v, neither %v nor %v", got, last, next)
			}
			last = got
		}
		if len(d.Names()) > 4 {
			t.Errorf("the files are %q", d.Names())
		}
		has(t, open(t, d), last)
	}
}
