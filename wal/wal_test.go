package wal_test

import (
	"fmt"
	"maps"
	"math"
	"slices"
	"strings"
	"testing"

	"sorrel/api"
	"sorrel/frame"
	"sorrel/fs"
	"sorrel/wal"
)

const (
	greatest = 99999998 // number of a file
	record   = 1 << 17  // bytes of a text
)

// of is so many bytes of one kind.
func of(b string, n int) string {
	return strings.Repeat(b, n)
}

// ok ends a test, if one of some calls was refused.
func ok(t *testing.T, l ...api.Errno) {
	t.Helper()
	for i, err := range l {
		if err != api.OK {
			t.Fatalf("the call at the place %d answered %d", i, err)
		}
	}
}

// is tells a call that did not answer what it should.
func is(t *testing.T, what string, got, want api.Errno) {
	t.Helper()
	if got != want {
		t.Errorf("%s answered %d, not %d", what, got, want)
	}
}

// name is what a number's file is called.
func name(n int) string {
	return fmt.Sprintf("log-%08d", n)
}

// frames are texts as a file has them.
func frames(texts ...string) string {
	all := ""
	for _, s := range texts {
		f, err := frame.Put(s)
		if err != api.OK {
			panic("a text that is too long")
		}
		all += f
	}
	return all
}

// put makes a file whose bytes are sure.
func put(t *testing.T, d *fs.Disk, name, s string) {
	t.Helper()
	ok(t, d.Make(name), d.Append(name, s), d.Sync(name))
}

// open is the log of a disk.
func open(t *testing.T, d *fs.Disk, from int) *wal.Log {
	t.Helper()
	l, err := wal.Open(d, from)
	if l == nil || err != api.OK {
		t.Fatalf("Open(%d) answered %d", from, err)
	}
	return l
}

// has tells a log that does not have this last number, and these texts.
func has(t *testing.T, l *wal.Log, last int, want ...string) {
	t.Helper()
	if n := l.Last(); n != last {
		t.Errorf("Last is %d, not %d", n, last)
	}
	if got := l.All(); !slices.Equal(got, want) {
		t.Errorf("All are %.200q, not %.200q", got, want)
	}
}

// roll tells a Roll that did not answer this number.
func roll(t *testing.T, l *wal.Log, want int) {
	t.Helper()
	if n, err := l.Roll(); n != want || err != api.OK {
		t.Errorf("Roll answered %d, %d; not %d", n, err, want)
	}
}

// files are a disk's files, name by name.
func files(d *fs.Disk) map[string]string {
	all := map[string]string{}
	for _, name := range d.Names() {
		s, err := d.Read(name)
		n, sure := d.Sure(name)
		all[name] = fmt.Sprintf("%q %d %d %d", s, err, n, sure)
	}
	return all
}

// same tells disks that do not have the same files.
func same(t *testing.T, what string, got, want map[string]string) {
	t.Helper()
	if !maps.Equal(got, want) {
		t.Errorf("%s: the files are %.300q, not %.300q", what, got, want)
	}
}

// names tells a disk that has not just these files.
func names(t *testing.T, d *fs.Disk, want ...string) {
	t.Helper()
	if got := d.Names(); !slices.Equal(got, want) {
		t.Errorf("Names are %q, not %q", got, want)
	}
}

// offDisk is a disk with two files of a log, whose power is off.
func offDisk(t *testing.T) *fs.Disk {
	t.Helper()
	d := fs.New()
	put(t, d, name(0), frames("a"))
	put(t, d, name(1), frames("b"))
	ok(t, d.Fuse(0))
	is(t, "a doing behind a fuse of 0", d.Sync(name(0)), api.ErrOff)
	return d
}

// notOpened tells an Open that was not refused so.
func notOpened(t *testing.T, d *fs.Disk, from int, want api.Errno) {
	t.Helper()
	if l, err := wal.Open(d, from); l != nil || err != want {
		t.Errorf("Open(%d) answered %v, %d; not %d", from, l, err, want)
	}
}

// A doing of a disk.
type doing func(d *fs.Disk) api.Errno

func makes(n int) doing   { return func(d *fs.Disk) api.Errno { return d.Make(name(n)) } }
func syncs(n int) doing   { return func(d *fs.Disk) api.Errno { return d.Sync(name(n)) } }
func removes(n int) doing { return func(d *fs.Disk) api.Errno { return d.Remove(name(n)) } }
func appends(n int, s string) doing {
	return func(d *fs.Disk) api.Errno { return d.Append(name(n), frames(s)) }
}

// left is how many doings a disk's fuse has left.
func left(d *fs.Disk) int {
	n := 0
	for d.Sync("none") != api.ErrOff {
		n++
	}
	return n
}

// does tells a call that is not just these doings of its disk, in this order, with the power going off at each.
func does(t *testing.T, what string, build func() (*fs.Disk, func() api.Errno), want ...doing) {
	t.Helper()
	for fuse := range len(want) + 3 {
		for _, keep := range [][]int{nil, {1}, {3, 0, 7}, {math.MaxInt}} {
			d, call := build()
			e, _ := build()
			ok(t, d.Fuse(fuse), e.Fuse(fuse))
			err := api.OK
			for _, w := range want {
				if err = w(e); err != api.OK {
					break
				}
			}
			at := fmt.Sprintf("%s with a fuse of %d, %v", what, fuse, keep)
			is(t, at, call(), err)
			if n, m := left(d), left(e); n != m {
				t.Errorf("%s: the fuse has %d doings left, not %d", at, n, m)
			}
			ok(t, d.Crash(keep), e.Crash(keep))
			same(t, at, files(d), files(e))
		}
	}
}

func TestWa1Arguments(t *testing.T) {
	d := fs.New()
	put(t, d, name(0), frames("a"))
	before := files(d)
	off := offDisk(t)
	for _, from := range []int{-1, -2, math.MinInt, 1<<20 + 1, 1 << 21, 99999998, 99999999, 100000000, math.MaxInt} {
		notOpened(t, d, from, api.ErrArg)
		notOpened(t, off, from, api.ErrArg) // that is told ahead of the power
		notOpened(t, nil, from, api.ErrArg)
	}
	same(t, "behind what was refused", files(d), before)
	for _, from := range []int{0, 1, 1<<20 - 1, 1 << 20} {
		notOpened(t, nil, from, api.ErrArg)
		notOpened(t, &fs.Disk{}, from, api.ErrArg)
		copied := *d
		notOpened(t, &copied, from, api.ErrArg)
		d := fs.New()
		l := open(t, d, from)
		has(t, l, from)
		names(t, d, name(from))
		ok(t, l.Add("a"))
		roll(t, l, from+1)
		has(t, l, from+1, "a")
	}
	same(t, "behind what was refused", files(d), before)
}

func TestWa1Off(t *testing.T) {
	for _, from := range []int{0, 1, 2, 7, 1 << 20} {
		d := offDisk(t)
		notOpened(t, d, from, api.ErrOff)
		names(t, d, name(0), name(1))
		ok(t, d.Crash(nil))
		has(t, open(t, d, 0), 2, "a", "b")
	}
	d := fs.New()
	ok(t, d.Fuse(0))
	is(t, "a doing behind a fuse of 0", d.Make("a"), api.ErrOff)
	notOpened(t, d, 0, api.ErrOff) // also where there is no file
	names(t, d)
}

// The names that are no log's files: they stay, and count for nothing.
func others() []string {
	return []string{
		"log-", "log-0", "log-1", "log-0000000", "log-000000000", "log-000000001", "log-99999999", "log-0000000a", "log-a0000000",
		"log-0000-000", "log-.0000000", "log-0000000.", "log--0000001", "log--00000001", "log-00000000-", "-log-00000000", "xlog-00000000",
		"log.00000000", "log00000000", "log000000000", "lo-00000000", "kog-00000000", "log-00000000.log", "00000000", "a", "tab-00000003", "log-00000000log-00000000",
	}
}

func TestWa1OtherFilesStay(t *testing.T) {
	d := fs.New()
	for _, name := range others() {
		put(t, d, name, frames("x", name))
	}
	before := files(d)
	l := open(t, d, 0)
	has(t, l, 0)
	ok(t, l.Add("a"), l.Flush())
	roll(t, l, 1)
	ok(t, l.Drop(1))
	l = open(t, d, 5)
	has(t, l, 5)
	if n := len(d.Names()); n != len(before)+1 {
		t.Errorf("there are %d files", n)
	}
	ok(t, d.Remove(name(5)))
	same(t, "without the log's files", files(d), before)
}

func TestWa1NamesOfNumbers(t *testing.T) {
	for _, n := range []int{0, 1, 9, 10, 12, 99, 100, 12345, 1234567, 9999999, 10000000, 12345678, 87654321, 90000000, 99999997} {
		d := fs.New()
		put(t, d, name(n), frames("a", "b"))
		l := open(t, d, 0)
		has(t, l, n+1, "a", "b")
		ok(t, l.Add("c"))
		names(t, d, name(n), name(n+1))
		if s, err := d.Read(name(n + 1)); s != frames("c") || err != api.OK {
			t.Errorf("%s is %q, %d", name(n+1), s, err)
		}
	}
}

// Which file is made, and which are removed, hangs on those that there are from from on.
func TestWa1NextNumber(t *testing.T) {
	for _, c := range []struct {
		there []int
		from  int
		last  int
		want  []string
	}{
		{nil, 0, 0, nil},
		{nil, 7, 7, nil},
		{[]int{0}, 0, 1, []string{"0"}},
		{[]int{0}, 1, 1, nil},
		{[]int{0}, 2, 2, nil},
		{[]int{5}, 0, 6, []string{"5"}},
		{[]int{5}, 5, 6, []string{"5"}},
		{[]int{5}, 6, 6, nil},
		{[]int{5}, 7, 7, nil},
		{[]int{5}, 1 << 20, 1 << 20, nil},
		{[]int{0, 1, 2}, 1, 3, []string{"1", "2"}},
		{[]int{0, 4, 9}, 3, 10, []string{"4", "9"}},
		{[]int{9, 10, 11, 100}, 10, 101, []string{"10", "11", "100"}},
		{[]int{9, 99, 999}, 1000, 1000, nil},
		{[]int{1<<20 - 1, 1 << 20, 1<<20 + 1}, 1 << 20, 1<<20 + 2, []string{"1048576", "1048577"}},
	} {
		d := fs.New()
		for _, n := range c.there {
			put(t, d, name(n), frames(fmt.Sprint(n)))
		}
		has(t, open(t, d, c.from), c.last, c.want...)
		there := slices.DeleteFunc(slices.Clone(c.there), func(n int) bool { return n < c.from })
		want := []string{}
		for _, n := range append(there, c.last) {
			want = append(want, name(n))
		}
		names(t, d, want...)
	}
}

func TestWa1Doings(t *testing.T) {
	for _, c := range []struct {
		there []int
		from  int
		want  []doing
	}{
		{nil, 0, []doing{makes(0)}},
		{nil, 3, []doing{makes(3)}},
		{[]int{2}, 0, []doing{makes(3)}},
		{[]int{2}, 3, []doing{removes(2), makes(3)}},
		{[]int{11, 10, 9, 100, 2}, 11, []doing{removes(2), removes(9), removes(10), makes(101)}},
		{[]int{0, 1, 2, 3}, 9, []doing{removes(0), removes(1), removes(2), removes(3), makes(9)}},
	} {
		does(t, "Open", func() (*fs.Disk, func() api.Errno) {
			d := fs.New()
			put(t, d, "log-x", "y")
			for _, n := range c.there {
				put(t, d, name(n), frames("a"))
				ok(t, d.Append(name(n), frames("b"))) // what is not sure stays so
			}
			return d, func() api.Errno {
				l, err := wal.Open(d, c.from)
				if (l == nil) != (err != api.OK) {
					t.Errorf("Open answered %v beside %d", l, err)
				}
				return err
			}
		}, c.want...)
	}
}

// Above the greatest number there is none: a log that had to have it is refused, and nothing is done.
func TestWa1NumbersAreFull(t *testing.T) {
	for _, from := range []int{0, 1, 1 << 20} {
		d := fs.New()
		put(t, d, name(0), frames("a"))
		put(t, d, name(greatest), frames("b"))
		ok(t, d.Append(name(0), frames("c")), d.Append(name(greatest), frames("d")))
		before := files(d)
		notOpened(t, d, from, api.ErrFull)
		same(t, "behind what was refused", files(d), before)
		ok(t, d.Fuse(1))
		notOpened(t, d, from, api.ErrFull)
		if n := left(d); n != 1 {
			t.Errorf("what was refused left %d doings of a fuse of 1", n)
		}
		notOpened(t, d, from, api.ErrOff) // that is told first
		ok(t, d.Crash([]int{99}), d.Rename(name(greatest), name(greatest-1)))
		l := open(t, d, 1)
		has(t, l, greatest, "b", "d")
		names(t, d, name(greatest-1), name(greatest))
	}
}

// A disk that is full refuses the file, unless files are removed ahead of it.
func TestWa1DiskIsFull(t *testing.T) {
	d := fs.New()
	for i := range api.MaxFiles {
		ok(t, d.Make(name(i)))
	}
	notOpened(t, d, 0, api.ErrFull)
	if n := len(d.Names()); n != api.MaxFiles {
		t.Errorf("there are %d files", n)
	}
	l := open(t, d, 1)
	has(t, l, api.MaxFiles)
	if n, err := l.Roll(); n != 0 || err != api.ErrFull {
		t.Errorf("Roll answered %d, %d", n, err)
	}
}

// A file's texts are those of the frames that it begins with.
func TestWa1Texts(t *testing.T) {
	turned := []byte(frames("turned"))
	turned[2] ^= 1
	long := of("x", api.MaxFrame)
	d := fs.New()
	put(t, d, name(0), frames("0"))
	put(t, d, name(1), frames("1", "", "1")+frames("cut")[:4])
	put(t, d, name(2), "")
	put(t, d, name(3), "\x00\x00\x00")
	put(t, d, name(4), frames("4")+string(turned)+frames("behind"))
	put(t, d, name(5), frames("\x00\xff", "ä\n"))
	put(t, d, name(8), frames(long, "8"))
	ok(t, d.Append(name(8), frames("not sure"))) // it was there all the same
	l := open(t, d, 1)
	want := []string{"1", "", "1", "4", "\x00\xff", "ä\n", long, "8", "not sure"}
	has(t, l, 9, want...)
	ok(t, l.Add("9"))
	has(t, l, 9, append(want, "9")...)
	has(t, open(t, d, 5), 10, "\x00\xff", "ä\n", long, "8", "not sure", "9")
}

// What a log has stays as it is, whatever becomes of a disk that is not asked.
func TestWa2AllWithThePowerOff(t *testing.T) {
	d := fs.New()
	put(t, d, name(0), frames("a"))
	l := open(t, d, 0)
	ok(t, l.Add("b"), d.Fuse(0))
	is(t, "a doing behind a fuse of 0", d.Sync("x"), api.ErrOff)
	has(t, l, 1, "a", "b")
	is(t, "Add of too much", l.Add(of("x", record+1)), api.ErrArg) // that is told first
	is(t, "Drop of too much", l.Drop(2), api.ErrArg)
	has(t, l, 1, "a", "b")
}

func TestWa2AllIsNew(t *testing.T) {
	d := fs.New()
	put(t, d, name(0), frames("a", "b"))
	l := open(t, d, 0)
	ok(t, l.Add("c"), l.Add("d"))
	first := l.All()
	for i := range first {
		first[i] = "changed"
	}
	_ = append(first[:0], "behind")
	has(t, l, 1, "a", "b", "c", "d")
	all := l.All()
	ok(t, l.Add("e"))
	roll(t, l, 2)
	ok(t, l.Add("f"), l.Drop(1))
	if !slices.Equal(all, []string{"a", "b", "c", "d"}) {
		t.Errorf("what was answered is %q now", all)
	}
	ok(t, l.Drop(2))
	has(t, l, 2, "f")
	ok(t, l.Add("g"), l.Add("h")) // also of one file alone
	all = l.All()
	all[0] = "changed"
	_ = append(all, "behind")
	ok(t, l.Add("i"))
	has(t, l, 2, "f", "g", "h", "i")
	if l := open(t, fs.New(), 0).All(); len(l) != 0 {
		t.Errorf("a new log has %q", l)
	}
}

func TestWa2Add(t *testing.T) {
	d := fs.New()
	l := open(t, d, 0)
	var all []string
	for _, s := range []string{"a", "", "\x00\xff\n", "ä", of("y", 1000), of("z", record-1), of("w", record), "a"} {
		ok(t, l.Add(s))
		all = append(all, s)
		has(t, l, 0, all...)
		if got, err := d.Read(name(0)); got != frames(all...) || err != api.OK {
			t.Errorf("the file is %.99q, %d", got, err)
		}
	}
	before := files(d)
	for _, n := range []int{record + 1, api.MaxFrame, api.MaxFrame + 1, 1 << 20} {
		is(t, "Add of too much", l.Add(of("x", n)), api.ErrArg)
	}
	has(t, l, 0, all...)
	same(t, "behind what was refused", files(d), before)
	if n, err := d.Sure(name(0)); n != 0 || err != api.OK {
		t.Errorf("%d bytes are sure, %d", n, err)
	}
}

// A file that is full is a disk's to refuse; a log that is opened anew then goes on.
func TestWa2AddIsFull(t *testing.T) {
	d := fs.New()
	l := open(t, d, 0)
	s := of("x", record)
	n := 1 << 22 / len(frames(s))
	for range n {
		ok(t, l.Add(s))
	}
	is(t, "Add of one more", l.Add(s), api.ErrFull)
	l = open(t, d, 0)
	ok(t, l.Add(s), l.Add("b"))
	if got := l.All(); len(got) != n+2 || got[n] != s || got[n+1] != "b" || l.Last() != 1 {
		t.Errorf("%d texts, %d", len(got), l.Last())
	}
}

func TestWa2Flush(t *testing.T) {
	d := fs.New()
	put(t, d, name(0), frames("a"))
	ok(t, d.Append(name(0), frames("b")))
	l := open(t, d, 0)
	ok(t, l.Add("c"), l.Flush(), l.Add("d"))
	if n, err := d.Sure(name(1)); n != len(frames("c")) || err != api.OK {
		t.Errorf("%d bytes are sure, %d", n, err)
	}
	if n, err := d.Sure(name(0)); n != len(frames("a")) || err != api.OK { // of the last file alone
		t.Errorf("%d bytes are sure, %d", n, err)
	}
	ok(t, l.Flush(), l.Flush(), d.Crash(nil))
	has(t, open(t, d, 0), 2, "a", "c", "d")
}

func TestWa2Roll(t *testing.T) {
	d := fs.New()
	l := open(t, d, 3)
	ok(t, l.Add("a"), l.Add("b"))
	roll(t, l, 4)
	has(t, l, 4, "a", "b")
	roll(t, l, 5) // also where nothing was added
	ok(t, l.Add("c"))
	has(t, l, 5, "a", "b", "c")
	names(t, d, name(3), name(4), name(5))
	if n, err := d.Sure(name(3)); n != len(frames("a", "b")) || err != api.OK {
		t.Errorf("%d bytes are sure, %d", n, err)
	}
	if s, err := d.Read(name(5)); s != frames("c") || err != api.OK {
		t.Errorf("the last file is %q, %d", s, err)
	}
	ok(t, d.Crash(nil))
	has(t, open(t, d, 0), 6, "a", "b")
}

// At the greatest number Roll is refused, nothing is done, and the log goes on.
func TestWa2RollIsFull(t *testing.T) {
	d := fs.New()
	put(t, d, name(greatest-2), frames("a"))
	l := open(t, d, 0)
	ok(t, l.Add("b"))
	roll(t, l, greatest)
	ok(t, l.Add("c"))
	before := files(d)
	for range 3 {
		if n, err := l.Roll(); n != 0 || err != api.ErrFull {
			t.Errorf("Roll answered %d, %d", n, err)
		}
	}
	has(t, l, greatest, "a", "b", "c")
	same(t, "behind what was refused", files(d), before)
	ok(t, l.Add("d"), l.Flush(), l.Drop(greatest))
	has(t, l, greatest, "c", "d")
	is(t, "Drop of too much", l.Drop(greatest+1), api.ErrArg)
	names(t, d, name(greatest))
	ok(t, d.Fuse(0))
	is(t, "a doing behind a fuse of 0", d.Sync("x"), api.ErrOff)
	if n, err := l.Roll(); n != 0 || err != api.ErrOff { // that is told first
		t.Errorf("Roll answered %d, %d", n, err)
	}
}

// rolled is a log with texts in the files 2, 3 and 5 to 7, those of 5 and 7 not sure; and its disk.
func rolled(t *testing.T) (*fs.Disk, *wal.Log) {
	t.Helper()
	d := fs.New()
	put(t, d, name(2), frames("2", "2"))
	put(t, d, name(3), frames("3"))
	put(t, d, name(5), "")
	ok(t, d.Append(name(5), frames("5")))
	l := open(t, d, 2)
	ok(t, l.Add("6"), l.Add(""))
	roll(t, l, 7)
	ok(t, l.Add("7"))
	return d, l
}

func TestWa2Drop(t *testing.T) {
	for _, c := range []struct {
		below int
		err   api.Errno
		texts []string
		left  []int
	}{
		{math.MinInt, api.OK, []string{"2", "2", "3", "5", "6", "", "7"}, []int{2, 3, 5, 6, 7}},
		{-1, api.OK, []string{"2", "2", "3", "5", "6", "", "7"}, []int{2, 3, 5, 6, 7}},
		{0, api.OK, []string{"2", "2", "3", "5", "6", "", "7"}, []int{2, 3, 5, 6, 7}},
		{2, api.OK, []string{"2", "2", "3", "5", "6", "", "7"}, []int{2, 3, 5, 6, 7}},
		{3, api.OK, []string{"3", "5", "6", "", "7"}, []int{3, 5, 6, 7}},
		{4, api.OK, []string{"5", "6", "", "7"}, []int{5, 6, 7}},
		{5, api.OK, []string{"5", "6", "", "7"}, []int{5, 6, 7}},
		{6, api.OK, []string{"6", "", "7"}, []int{6, 7}},
		{7, api.OK, []string{"7"}, []int{7}},
		{8, api.ErrArg, []string{"2", "2", "3", "5", "6", "", "7"}, []int{2, 3, 5, 6, 7}},
		{greatest + 1, api.ErrArg, []string{"2", "2", "3", "5", "6", "", "7"}, []int{2, 3, 5, 6, 7}},
		{math.MaxInt, api.ErrArg, []string{"2", "2", "3", "5", "6", "", "7"}, []int{2, 3, 5, 6, 7}},
	} {
		d, l := rolled(t)
		put(t, d, "log-0", "x")
		is(t, fmt.Sprintf("Drop(%d)", c.below), l.Drop(c.below), c.err)
		has(t, l, 7, c.texts...)
		want := []string{"log-0"}
		for _, n := range c.left {
			want = append(want, name(n))
		}
		slices.Sort(want)
		names(t, d, want...)
		ok(t, l.Add("a"))
		roll(t, l, 8)
		ok(t, l.Add("b"))
		has(t, l, 8, append(slices.Clone(c.texts), "a", "b")...)
		has(t, open(t, d, 0), 9, append(slices.Clone(c.texts), "a", "b")...)
	}
}

func TestWa2Doings(t *testing.T) {
	long := of("x", record)
	for _, c := range []struct {
		what string
		call func(l *wal.Log) api.Errno
		want []doing
	}{
		{"Add", func(l *wal.Log) api.Errno { return l.Add("ab") }, []doing{appends(7, "ab")}},
		{"Add of nothing", func(l *wal.Log) api.Errno { return l.Add("") }, []doing{appends(7, "")}},
		{"Add of much", func(l *wal.Log) api.Errno { return l.Add(long) }, []doing{appends(7, long)}},
		{"Flush", (*wal.Log).Flush, []doing{syncs(7)}},
		{"Roll", func(l *wal.Log) api.Errno {
			n, err := l.Roll()
			if err == api.OK && n != 8 || err != api.OK && n != 0 {
				t.Errorf("Roll answered %d, %d", n, err)
			}
			return err
		}, []doing{syncs(7), makes(8)}},
		{"Drop(-1)", func(l *wal.Log) api.Errno { return l.Drop(-1) }, nil},
		{"Drop(2)", func(l *wal.Log) api.Errno { return l.Drop(2) }, nil},
		{"Drop(3)", func(l *wal.Log) api.Errno { return l.Drop(3) }, []doing{removes(2)}},
		{"Drop(6)", func(l *wal.Log) api.Errno { return l.Drop(6) }, []doing{removes(2), removes(3), removes(5)}},
		{"Drop(7)", func(l *wal.Log) api.Errno { return l.Drop(7) }, []doing{removes(2), removes(3), removes(5), removes(6)}},
		{"All", func(l *wal.Log) api.Errno { l.All(); return api.OK }, nil},
		{"Last", func(l *wal.Log) api.Errno { l.Last(); return api.OK }, nil},
	} {
		does(t, c.what, func() (*fs.Disk, func() api.Errno) {
			d, l := rolled(t)
			return d, func() api.Errno { return c.call(l) }
		}, c.want...)
	}
}

// What is refused for its arguments takes nothing of a fuse.
func TestWa2RefusedDoesNothing(t *testing.T) {
	does := func(what string, call func(l *wal.Log) api.Errno) {
		d, l := rolled(t)
		before := files(d)
		ok(t, d.Fuse(1))
		for range 3 {
			is(t, what, call(l), api.ErrArg)
		}
		same(t, what, files(d), before)
		has(t, l, 7, "2", "2", "3", "5", "6", "", "7")
		if n := left(d); n != 1 {
			t.Errorf("%s left %d doings of a fuse of 1", what, n)
		}
	}
	does("Add", func(l *wal.Log) api.Errno { return l.Add(of("x", record+1)) })
	does("Drop", func(l *wal.Log) api.Errno { return l.Drop(8) })
}

func TestWa2LogsStandApart(t *testing.T) {
	d, e := fs.New(), fs.New()
	l, m := open(t, d, 0), open(t, e, 4)
	ok(t, l.Add("a"), m.Add("b"))
	roll(t, m, 5)
	has(t, l, 0, "a")
	has(t, m, 5, "b")
	names(t, d, name(0))
	names(t, e, name(4), name(5))
}

// notGiven tells a log that Open did not give, and that answers all the same.
func notGiven(t *testing.T, l *wal.Log) {
	t.Helper()
	has(t, l, 0)
	is(t, "Add", l.Add("a"), api.ErrArg)
	is(t, "Add of too much", l.Add(of("x", record+1)), api.ErrArg)
	is(t, "Flush", l.Flush(), api.ErrArg)
	if n, err := l.Roll(); n != 0 || err != api.ErrArg {
		t.Errorf("Roll answered %d, %d", n, err)
	}
	for _, below := range []int{-1, 0, 1, math.MinInt, math.MaxInt} {
		is(t, "Drop", l.Drop(below), api.ErrArg)
	}
	has(t, l, 0)
}

func TestWa2LogsThatOpenDidNotGive(t *testing.T) {
	notGiven(t, nil)
	notGiven(t, &wal.Log{})
	d, l := rolled(t)
	before := files(d)
	copied := *l
	notGiven(t, &copied)
	same(t, "behind a copy's calls", files(d), before)
	has(t, l, 7, "2", "2", "3", "5", "6", "", "7")
	*l = wal.Log{}
	notGiven(t, l)
}

// A log that its disk refused, or whose disk crashed, or is none any more, ends its calls.
func TestWa2CallsEndBehindARefusal(t *testing.T) {
	all := func(l *wal.Log) {
		for _, below := range []int{-1, 3, l.Last(), math.MaxInt} {
			l.Add("a")
			l.Flush()
			l.Roll()
			l.All()
			l.Drop(below)
			l.Last()
		}
	}
	for fuse := range 9 {
		d, l := rolled(t)
		ok(t, d.Fuse(fuse))
		all(l)
		ok(t, d.Crash(nil))
		all(l)
		for _, name := range d.Names() {
			ok(t, d.Remove(name))
		}
		all(l)
		*d = fs.Disk{}
		all(l)
	}
}

func TestWa3Example(t *testing.T) {
	for keep, want := range [][]string{{"a"}, {"a"}, {"a"}, {"a"}, {"a"}, {"a"}, {"a", "b"}, {"a", "b"}} {
		d := fs.New()
		l := open(t, d, 0)
		ok(t, l.Add("a"), l.Flush(), l.Add("b"), d.Crash([]int{keep}))
		has(t, open(t, d, 0), 1, want...)
	}
}

// What is added behind a crash stands behind what survived, not behind what is left of a frame.
func TestWa3AddBehindACrash(t *testing.T) {
	for keep := range 20 {
		d := fs.New()
		l := open(t, d, 0)
		ok(t, l.Add("a"), l.Flush(), l.Add("bb"), l.Add("cc"), d.Crash([]int{keep}))
		l = open(t, d, 0)
		was := l.All()
		ok(t, l.Add("d"), l.Flush(), l.Add("e"), d.Crash(nil))
		l = open(t, d, 0)
		has(t, l, 2, append(was, "d")...)
		ok(t, l.Add("f"))
		roll(t, l, 3)
		ok(t, d.Crash(nil))
		has(t, open(t, d, 0), 4, append(was, "d", "f")...)
	}
}

// chance are numbers that look like chance, the same in each run.
type chance uint64

// below is a number of 0 to n less 1.
func (c *chance) below(n int) int {
	*c = *c*6364136223846793005 + 1442695040888963407
	return int(uint64(*c) >> 33 % uint64(n))
}

// text is a text by chance.
func (c *chance) text() string {
	return of(string([]byte{byte(c.below(256))}), c.below(5)*c.below(60))
}

// plain is a log in words: its texts, file by file, and how many of the last file's are sure.
type plain struct {
	first int
	parts [][]string
	sure  int
}

// all are its texts.
func (p *plain) all() []string {
	return slices.Concat(p.parts...)
}

// last is the last file's number.
func (p *plain) last() int {
	return p.first + len(p.parts) - 1
}

// roll puts a file behind.
func (p *plain) roll() {
	p.parts, p.sure = append(p.parts, nil), 0
}

// drop takes the files below a number away.
func (p *plain) drop(below int) {
	n := max(below-p.first, 0)
	p.first, p.parts = p.first+n, p.parts[n:]
}

// step does something by chance to a log and to the plain one; whether the power is on.
func step(t *testing.T, c *chance, l *wal.Log, p *plain) bool {
	t.Helper()
	end := len(p.parts) - 1
	var err api.Errno
	switch k := c.below(10); {
	case k < 5:
		s := c.text()
		if err = l.Add(s); err == api.OK {
			p.parts[end] = append(p.parts[end], s)
		}
	case k < 7:
		if err = l.Flush(); err == api.OK {
			p.sure = len(p.parts[end])
		}
	case k < 9:
		// Where the power goes off within, all is sure, or nothing more than was.
		if _, err = l.Roll(); err == api.OK {
			p.roll()
		}
	default:
		below := p.first + c.below(len(p.parts)+2) - 1
		err = l.Drop(below)
		if below > p.last() {
			is(t, "Drop of too much", err, api.ErrArg)
			return true
		}
		if err == api.OK {
			p.drop(below)
		}
	}
	if err != api.OK && err != api.ErrOff {
		t.Fatalf("a call answered %d", err)
	}
	return err == api.OK
}

// survived tells a log behind a crash that does not have all sure texts of what a plain one had, and of the others the first ones; what was being dropped may be gone, file by file.
func survived(t *testing.T, got []string, p *plain, dropping bool) {
	t.Helper()
	all := p.all()
	sure := len(all) - len(p.parts[len(p.parts)-1]) + p.sure
	for gone := range p.parts {
		n := len(slices.Concat(p.parts[:gone]...))
		if len(got) >= sure-n && len(got) <= len(all)-n && slices.Equal(got, all[n:n+len(got)]) {
			return
		}
		if !dropping {
			break
		}
	}
	t.Fatalf("%d texts survived of %d, %d of them sure", len(got), len(all), sure)
}

// plainOf is a disk's log in words, if its files have no numbers missing between.
func plainOf(t *testing.T, d *fs.Disk) *plain {
	t.Helper()
	p := &plain{first: -1}
	for n := range 1000 {
		s, err := d.Read(name(n))
		if err != api.OK {
			continue
		}
		if p.first < 0 {
			p.first = n
		}
		if n != p.last()+1 {
			t.Fatalf("there is no file %d", p.last()+1)
		}
		texts, _ := frame.All(s)
		p.parts = append(p.parts, texts)
	}
	return p
}

// Runs of calls, with the power going off at any doing, and crashes between: a log that is opened then has the first texts that it had, all that are sure among them.
func TestWa3Runs(t *testing.T) {
	for seed := range 400 {
		c := chance(seed)
		d := fs.New()
		from := c.below(3)
		l, p := open(t, d, from), &plain{first: from, parts: [][]string{nil}}
		for range 12 {
			ok(t, d.Fuse(c.below(40)-3))
			on := true
			for i := 0; on && i < 25; i++ {
				if on = step(t, &c, l, p); on {
					has(t, l, p.last(), p.all()...)
				}
			}
			ok(t, d.Crash([]int{c.below(80) - 2, c.below(200), math.MaxInt, 0}[:c.below(5)]))
			l = open(t, d, 0)
			survived(t, l.All(), p, !on)
			p = plainOf(t, d)
			has(t, l, p.last(), p.all()...)
		}
	}
}
