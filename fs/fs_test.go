package fs_test

import (
	"math"
	"slices"
	"strings"
	"testing"

	"sorrel/api"
	"sorrel/fs"
)

const most = 1 << 22 // bytes of a file

// of is so many bytes of one kind.
func of(b string, n int) string {
	return strings.Repeat(b, n)
}

// ok ends a test, if one of some calls was refused.
func ok(t *testing.T, l ...api.Errno) {
	t.Helper()
	for i, err := range l {
		if err != api.OK {
			t.Fatalf("the call at the place %d answered %d", i, err)
		}
	}
}

// is tells a call that did not answer what it should.
func is(t *testing.T, what string, got, want api.Errno) {
	t.Helper()
	if got != want {
		t.Errorf("%s answered %d, not %d", what, got, want)
	}
}

// has tells a file that does not have these bytes, or whose sure ones are not so many.
func has(t *testing.T, d *fs.Disk, name, want string, sure int) {
	t.Helper()
	if s, err := d.Read(name); s != want || err != api.OK {
		t.Errorf("Read(%q) is %d bytes, %d; not %d", name, len(s), err, len(want))
	}
	if n, err := d.Sure(name); n != sure || err != api.OK {
		t.Errorf("Sure(%q) is %d, %d; not %d", name, n, err, sure)
	}
}

// none tells a file that there should not be.
func none(t *testing.T, d *fs.Disk, name string) {
	t.Helper()
	if s, err := d.Read(name); s != "" || err != api.ErrNone {
		t.Errorf("Read(%q) is %q, %d", name, s, err)
	}
	if n, err := d.Sure(name); n != 0 || err != api.ErrNone {
		t.Errorf("Sure(%q) is %d, %d", name, n, err)
	}
}

// names tells a disk that has not just these files.
func names(t *testing.T, d *fs.Disk, want ...string) {
	t.Helper()
	if got := d.Names(); !slices.Equal(got, want) {
		t.Errorf("Names are %q, not %q", got, want)
	}
}

// a doing of a disk, of a name.
type doing struct {
	what string
	do   func(d *fs.Disk, name string) api.Errno
}

// doings are all doings; Rename with the name at either place, and at both.
func doings() []doing {
	return []doing{
		{"Make", (*fs.Disk).Make},
		{"Append", func(d *fs.Disk, name string) api.Errno { return d.Append(name, "x") }},
		{"Append of nothing", func(d *fs.Disk, name string) api.Errno { return d.Append(name, "") }},
		{"Sync", (*fs.Disk).Sync},
		{"Rename from", func(d *fs.Disk, name string) api.Errno { return d.Rename(name, "to") }},
		{"Rename to", func(d *fs.Disk, name string) api.Errno { return d.Rename("from", name) }},
		{"Rename both", func(d *fs.Disk, name string) api.Errno { return d.Rename(name, name) }},
		{"Remove", (*fs.Disk).Remove},
	}
}

// refused tells of each doing, and Read and Sure, of a name that was not answered so.
func refused(t *testing.T, d *fs.Disk, name string, want api.Errno) {
	t.Helper()
	for _, x := range doings() {
		is(t, x.what+" of "+name, x.do(d, name), want)
	}
	if s, err := d.Read(name); s != "" || err != want {
		t.Errorf("Read(%q) is %q, %d; not %d", name, s, err, want)
	}
	if n, err := d.Sure(name); n != 0 || err != want {
		t.Errorf("Sure(%q) is %d, %d; not %d", name, n, err, want)
	}
}

// offDisk is a disk with a file, whose power is off.
func offDisk(t *testing.T, name string) *fs.Disk {
	t.Helper()
	d := fs.New()
	ok(t, d.Make(name), d.Append(name, "abc"), d.Sync(name), d.Append(name, "de"), d.Fuse(0))
	is(t, "a doing behind a fuse of 0", d.Sync(name), api.ErrOff)
	return d
}

// good are names that may be.
func good() []string {
	l := []string{"log-1", "log-00000000", "a.b", "..", ".", "-", "--", "0", "9z", "z.-0", of("a", 31), of("-", 32), of("z", 32)}
	for b := range 256 {
		if strings.Contains("abcdefghijklmnopqrstuvwxyz0123456789.-", string([]byte{byte(b)})) {
			l = append(l, string([]byte{byte(b)}))
		}
	}
	return l
}

// bad are names that may not be.
func bad() []string {
	l := []string{"", of("a", 33), of("a", 64), of(".", 1<<16), "aB", "Ba", "a b", " a", "a ", "a\n", "a/b", "../a", "log_1", "ä", "aä", "a\x00", "\xff", "ａ"}
	for b := range 256 {
		if s := string([]byte{byte(b)}); !strings.Contains("abcdefghijklmnopqrstuvwxyz0123456789.-", s) {
			l = append(l, s, "a"+s, s+"a", "a"+s+"0")
		}
	}
	return l
}

func TestFs1NamesThatMayBe(t *testing.T) {
	for _, name := range good() {
		d := fs.New()
		is(t, "Append of none", d.Append(name, "x"), api.ErrNone)
		ok(t, d.Make(name), d.Append(name, "abc"), d.Sync(name), d.Append(name, "d"))
		has(t, d, name, "abcd", 3)
		names(t, d, name)
		ok(t, d.Rename(name, "to"), d.Rename("to", name), d.Remove(name))
		none(t, d, name)
	}
}

func TestFs1NamesThatMayNotBe(t *testing.T) {
	d, off := fs.New(), offDisk(t, "from")
	ok(t, d.Make("from"), d.Make("to"), d.Append("from", "abc"))
	for _, name := range bad() {
		refused(t, d, name, api.ErrArg)
		refused(t, off, name, api.ErrArg) // that is told ahead of the power
		is(t, "Rename of none to "+name, d.Rename("none", name), api.ErrArg)
		is(t, "Rename of "+name+" to none", d.Rename(name, "none"), api.ErrArg)
	}
	names(t, d, "from", "to")
	has(t, d, "from", "abc", 0)
}

func TestFs1NamesOfEachLength(t *testing.T) {
	for n := range 200 {
		want := api.OK
		if n < 1 || n > 32 {
			want = api.ErrArg
		}
		is(t, "Make", fs.New().Make(of("a", n)), want)
	}
}

func TestFs1NewIsEmpty(t *testing.T) {
	d := fs.New()
	names(t, d)
	none(t, d, "a")
	if d.Off() {
		t.Error("the power of a new disk is off")
	}
	for range 1000 { // and there is no fuse
		is(t, "Sync of none", d.Sync("a"), api.ErrNone)
	}
}

func TestFs1Make(t *testing.T) {
	d := fs.New()
	ok(t, d.Make("a"))
	has(t, d, "a", "", 0)
	ok(t, d.Append("a", "xy"), d.Sync("a"), d.Append("a", "z"))
	is(t, "Make of one that there is", d.Make("a"), api.ErrArg)
	has(t, d, "a", "xyz", 2)
	ok(t, d.Remove("a"), d.Make("a"))
	has(t, d, "a", "", 0) // nothing is left of the one that was
	ok(t, d.Append("a", "z"))
	has(t, d, "a", "z", 0)
}

// number is a name of a number.
func number(i int) string {
	return "log-" + string([]byte{byte('0' + i/100), byte('0' + i/10%10), byte('0' + i%10)})
}

func TestFs1MakeIsFull(t *testing.T) {
	d := fs.New()
	for i := range 256 {
		ok(t, d.Make(number(i)))
	}
	is(t, "Make of one more", d.Make("a"), api.ErrFull)
	is(t, "Make of one that there is", d.Make(number(7)), api.ErrArg)
	is(t, "Make of one that may not be", d.Make("A"), api.ErrArg)
	none(t, d, "a")
	if n := len(d.Names()); n != 256 {
		t.Errorf("there are %d files", n)
	}
	ok(t, d.Rename(number(7), "b")) // no more files than before
	is(t, "Make of one more", d.Make("a"), api.ErrFull)
	ok(t, d.Rename(number(8), number(9)), d.Make("a"))
	is(t, "Make of one more", d.Make("c"), api.ErrFull)
	ok(t, d.Remove("b"), d.Make("c"))
	is(t, "Make of one more", d.Make("b"), api.ErrFull)
	ok(t, d.Crash(nil))
	is(t, "Make of one more", d.Make("b"), api.ErrFull)
}

func TestFs1Append(t *testing.T) {
	d := fs.New()
	is(t, "Append of none", d.Append("a", "x"), api.ErrNone)
	names(t, d)
	all := ""
	ok(t, d.Make("a"), d.Make("b"))
	for _, s := range []string{"x", "", "\x00\xff\n", "ä", of("y", 1000), "x"} {
		ok(t, d.Append("a", s))
		all += s
		has(t, d, "a", all, 0)
	}
	has(t, d, "b", "", 0)
}

func TestFs1AppendIsFull(t *testing.T) {
	d := fs.New()
	ok(t, d.Make("a"), d.Make("b"))
	for _, s := range []string{of("x", most+1), of("x", 2*most)} {
		is(t, "Append of too much", d.Append("a", s), api.ErrFull)
		has(t, d, "a", "", 0)
		is(t, "Append of too much to none", d.Append("c", s), api.ErrNone)
	}
	ok(t, d.Append("a", of("x", most-1)), d.Sync("a"))
	is(t, "Append of two more", d.Append("a", "yz"), api.ErrFull)
	has(t, d, "a", of("x", most-1), most-1)
	ok(t, d.Append("a", "y"), d.Append("a", ""))
	is(t, "Append of one more", d.Append("a", "z"), api.ErrFull)
	has(t, d, "a", of("x", most-1)+"y", most-1)
	ok(t, d.Append("b", of("z", most))) // each file has its own bound
	has(t, d, "b", of("z", most), 0)
	ok(t, d.Crash(nil), d.Append("b", "y")) // what did not survive is no more
	has(t, d, "b", "y", 0)
	is(t, "Append of one more", d.Append("b", of("z", most)), api.ErrFull)
}

func TestFs1Sync(t *testing.T) {
	d := fs.New()
	is(t, "Sync of none", d.Sync("a"), api.ErrNone)
	ok(t, d.Make("a"), d.Make("b"), d.Append("a", "ab"), d.Append("b", "x"))
	ok(t, d.Sync("a"))
	has(t, d, "a", "ab", 2)
	has(t, d, "b", "x", 0)
	ok(t, d.Append("a", "cde"))
	has(t, d, "a", "abcde", 2)
	ok(t, d.Sync("a"), d.Sync("a"))
	has(t, d, "a", "abcde", 5)
	ok(t, d.Remove("b"))
	is(t, "Sync of one that was removed", d.Sync("b"), api.ErrNone)
}

func TestFs1Rename(t *testing.T) {
	d := fs.New()
	ok(t, d.Make("a"), d.Append("a", "ab"), d.Sync("a"), d.Append("a", "c"), d.Make("b"), d.Append("b", "xy"), d.Sync("b"))
	is(t, "Rename of none", d.Rename("c", "b"), api.ErrNone)
	is(t, "Rename of none to itself", d.Rename("c", "c"), api.ErrNone)
	has(t, d, "b", "xy", 2)
	ok(t, d.Rename("a", "c")) // to a name that is free
	names(t, d, "b", "c")
	none(t, d, "a")
	has(t, d, "c", "abc", 2)
	ok(t, d.Rename("c", "c")) // to its own
	names(t, d, "b", "c")
	has(t, d, "c", "abc", 2)
	ok(t, d.Rename("c", "b")) // to another one's
	names(t, d, "b")
	has(t, d, "b", "abc", 2)
	ok(t, d.Append("b", "d"), d.Make("c"))
	has(t, d, "b", "abcd", 2)
	has(t, d, "c", "", 0)
	ok(t, d.Crash([]int{1}))
	has(t, d, "b", "abc", 3)
}

func TestFs1Remove(t *testing.T) {
	d := fs.New()
	is(t, "Remove of none", d.Remove("a"), api.ErrNone)
	ok(t, d.Make("a"), d.Make("b"), d.Append("a", "ab"), d.Append("b", "x"), d.Sync("a"), d.Remove("a"))
	none(t, d, "a")
	names(t, d, "b")
	has(t, d, "b", "x", 0)
	is(t, "Remove of one that was removed", d.Remove("a"), api.ErrNone)
	is(t, "Append to one that was removed", d.Append("a", "x"), api.ErrNone)
	is(t, "Rename of one that was removed", d.Rename("a", "c"), api.ErrNone)
	ok(t, d.Crash(nil)) // it does not come again
	names(t, d, "b")
}

// What Read answers stays as it is, whatever is done then.
func TestFs1ReadStays(t *testing.T) {
	d := fs.New()
	ok(t, d.Make("a"), d.Append("a", "abc"), d.Sync("a"), d.Append("a", "defgh"))
	s, err := d.Read("a")
	ok(t, err, d.Crash([]int{1}), d.Append("a", "xyz"))
	if s != "abcdefgh" {
		t.Errorf("what was read is %q now", s)
	}
	has(t, d, "a", "abcdxyz", 4)
}

// Each doing that is begun takes one of a fuse, also one that is refused then; at its end the power goes off instead of it.
func TestFs1FuseIsTakenByDoings(t *testing.T) {
	for _, x := range doings() {
		for n := range 4 {
			d := fs.New()
			ok(t, d.Make("a"), d.Fuse(n))
			for range n {
				if err := x.do(d, "none"); err == api.ErrOff || err == api.ErrFull || d.Off() {
					t.Errorf("%s of a fuse of %d answered %d", x.what, n, err)
				}
			}
			files := d.Names()
			if s, err := d.Read("a"); s != "" || err != api.OK {
				t.Errorf("Read at a fuse's end is %q, %d", s, err)
			}
			is(t, x.what+" behind a fuse", x.do(d, "a"), api.ErrOff)
			if !d.Off() {
				t.Errorf("behind %s the power is not off", x.what)
			}
			refused(t, d, "a", api.ErrOff)
			names(t, d, files...)
			ok(t, d.Crash([]int{math.MaxInt}))
			has(t, d, "a", "", 0)
			names(t, d, files...)
		}
	}
}

// What is no doing, and a doing of a name that may not be, take nothing of a fuse.
func TestFs1FuseIsNotTakenByOthers(t *testing.T) {
	d := fs.New()
	ok(t, d.Make("a"), d.Append("a", "x"), d.Fuse(1))
	for range 5 {
		has(t, d, "a", "x", 0)
		none(t, d, "b")
		names(t, d, "a")
		refused(t, d, "A", api.ErrArg)
		is(t, "Rename to one that may not be", d.Rename("a", "B"), api.ErrArg)
		if d.Off() {
			t.Fatal("the power is off")
		}
	}
	ok(t, d.Sync("a"))
	refused(t, d, "A", api.ErrArg)
	if d.Off() {
		t.Error("the power is off")
	}
	has(t, d, "a", "x", 1)
	is(t, "Sync behind a fuse", d.Sync("a"), api.ErrOff)
}

// With the power off nothing else is told of a name: not that there is none, that there is one, or no room.
func TestFs1OffIsToldFirst(t *testing.T) {
	d := fs.New()
	for i := range 256 {
		ok(t, d.Make(number(i)))
	}
	ok(t, d.Append(number(3), of("x", most)), d.Fuse(0))
	is(t, "Make of one too many", d.Make("a"), api.ErrOff)
	is(t, "Append of one too many", d.Append(number(3), "y"), api.ErrOff)
	for _, name := range []string{"a", number(3), "none"} {
		refused(t, d, name, api.ErrOff)
	}
	// Nor is it told, where the power goes off with that very doing.
	for _, x := range doings() {
		for _, name := range []string{"a", "none"} {
			d := fs.New()
			ok(t, d.Make("a"), d.Fuse(0))
			is(t, x.what+" of "+name, x.do(d, name), api.ErrOff)
		}
	}
}

// Where the power goes off, the doing is not done.
func TestFs1NothingIsDoneAtAFusesEnd(t *testing.T) {
	for _, x := range doings() {
		for _, name := range []string{"a", "from", "new"} {
			d := fs.New()
			ok(t, d.Make("a"), d.Append("a", "ab"), d.Sync("a"), d.Append("a", "c"), d.Make("from"), d.Append("from", "xyz"), d.Make("to"), d.Fuse(0))
			is(t, x.what+" of "+name, x.do(d, name), api.ErrOff)
			names(t, d, "a", "from", "to")
			ok(t, d.Crash([]int{1, 2}))
			has(t, d, "a", "abc", 3)
			has(t, d, "from", "xy", 2)
			has(t, d, "to", "", 0)
		}
	}
}

func TestFs2Names(t *testing.T) {
	d := fs.New()
	for _, name := range []string{"log-2", "b", "log-10", "-", "a.b", "a", "9", "a-b", "z", ".", "aa", "0", "log-1"} {
		ok(t, d.Make(name))
	}
	want := []string{"-", ".", "0", "9", "a", "a-b", "a.b", "aa", "b", "log-1", "log-10", "log-2", "z"}
	names(t, d, want...)
	ok(t, d.Fuse(0))
	is(t, "Sync behind a fuse", d.Sync("a"), api.ErrOff)
	names(t, d, want...) // also with the power off
	ok(t, d.Crash(nil))
	names(t, d, want...)
	l := d.Names()
	for i := range l {
		l[i] = "changed"
	}
	_ = append(l[:0], "behind")
	names(t, d, want...)
}

func TestFs2Fuse(t *testing.T) {
	d := fs.New()
	ok(t, d.Make("a"), d.Fuse(1), d.Fuse(2)) // the last one counts
	ok(t, d.Append("a", "x"), d.Append("a", "y"))
	ok(t, d.Fuse(1), d.Append("a", "z"), d.Fuse(-1)) // there is none any more
	for range 100 {
		ok(t, d.Append("a", ""))
	}
	for _, n := range []int{-1, -2, math.MinInt} {
		ok(t, d.Fuse(0), d.Fuse(n))
		for range 10 {
			ok(t, d.Sync("a"))
		}
	}
	ok(t, d.Fuse(math.MaxInt))
	for range 10 {
		ok(t, d.Sync("a"))
	}
	ok(t, d.Fuse(0))
	if d.Off() {
		t.Error("a fuse of 0 lets the power go off ahead of a doing")
	}
	is(t, "Append behind a fuse", d.Append("a", "w"), api.ErrOff)
	ok(t, d.Crash(nil))
	has(t, d, "a", "xyz", 3)
}

// A fuse does not give the power again.
func TestFs2FuseWithThePowerOff(t *testing.T) {
	for _, n := range []int{-1, 0, 1, 7, math.MinInt, math.MaxInt} {
		d := offDisk(t, "a")
		ok(t, d.Fuse(n))
		if !d.Off() {
			t.Errorf("Fuse(%d) gave the power again", n)
		}
		refused(t, d, "a", api.ErrOff)
		ok(t, d.Crash(nil))
		for range 10 { // nor is there one behind a crash
			ok(t, d.Sync("a"))
		}
		has(t, d, "a", "abc", 3)
	}
}

func TestFs2CrashTakesFuseAndGivesPower(t *testing.T) {
	d := fs.New()
	ok(t, d.Make("a"), d.Fuse(1), d.Crash(nil)) // the power was on
	for range 10 {
		ok(t, d.Append("a", "x"))
	}
	ok(t, d.Fuse(0))
	is(t, "Append behind a fuse", d.Append("a", "x"), api.ErrOff)
	ok(t, d.Crash([]int{3}))
	if d.Off() {
		t.Error("behind a crash the power is off")
	}
	has(t, d, "a", "xxx", 3)
	for range 10 {
		ok(t, d.Append("a", "y"))
	}
	has(t, d, "a", "xxx"+of("y", 10), 3)
	ok(t, d.Crash([]int{4}), d.Crash(nil), d.Crash([]int{9}))
	has(t, d, "a", "xxxyyyy", 7)
}

// Of each file so many bytes survive as the number at its place says, from the beginning again where there are no more numbers.
func TestFs2CrashKeeps(t *testing.T) {
	for _, c := range []struct {
		keep []int
		want []string // of a, b, c, d
	}{
		{nil, []string{"xy", "", "xyz", "x"}},
		{[]int{}, []string{"xy", "", "xyz", "x"}},
		{[]int{0}, []string{"xy", "", "xyz", "x"}},
		{[]int{1}, []string{"xy1", "1", "xyz", "x1"}},
		{[]int{2, 3}, []string{"xy12", "123", "xyz", "x123"}},
		{[]int{1, 2, 3}, []string{"xy1", "12", "xyz", "x1"}},
		{[]int{0, 1, 0, 4}, []string{"xy", "1", "xyz", "x1234"}},
		{[]int{0, 0, 0, 0, 9}, []string{"xy", "", "xyz", "x"}},
		{[]int{5, 4}, []string{"xy12345", "1234", "xyz", "x1234"}},
		{[]int{4, 5, 5, 5}, []string{"xy1234", "12345", "xyz", "x12345"}},
		{[]int{6}, []string{"xy12345", "12345", "xyz", "x12345"}},
		{[]int{-1}, []string{"xy", "", "xyz", "x"}},
		{[]int{-1, 2}, []string{"xy", "12", "xyz", "x12"}},
		{[]int{math.MaxInt}, []string{"xy12345", "12345", "xyz", "x12345"}},
		{[]int{math.MinInt, math.MaxInt, math.MaxInt, math.MaxInt - 1}, []string{"xy", "12345", "xyz", "x12345"}},
	} {
		d := fs.New()
		ok(t, d.Make("d"), d.Make("b"), d.Make("a"), d.Make("c")) // the order is that of the names
		ok(t, d.Append("a", "xy"), d.Append("c", "xyz"), d.Append("d", "x"))
		ok(t, d.Sync("c"), d.Sync("d"), d.Sync("a"), d.Sync("b"))
		ok(t, d.Append("a", "12345"), d.Append("b", "123"), d.Append("b", "45"), d.Append("d", "12345"))
		room := append(slices.Clone(c.keep), 7, 7, 7, 7)
		ok(t, d.Crash(room[:len(c.keep)])) // what lies behind a list's end is not read
		for i, name := range []string{"a", "b", "c", "d"} {
			has(t, d, name, c.want[i], len(c.want[i]))
		}
		if !slices.Equal(room, append(slices.Clone(c.keep), 7, 7, 7, 7)) {
			t.Errorf("Crash changed its list to %v", room)
		}
	}
}

// What was kept of a list does not count at the next crash.
func TestFs2CrashKeepsNoList(t *testing.T) {
	d := fs.New()
	keep := []int{1}
	ok(t, d.Make("a"), d.Append("a", "xyz"), d.Crash(keep))
	keep[0] = 9
	ok(t, d.Append("a", "uvw"), d.Crash(nil))
	has(t, d, "a", "x", 1)
}

func TestFs2DisksStandApart(t *testing.T) {
	d, e := fs.New(), fs.New()
	ok(t, d.Make("a"), d.Append("a", "x"), d.Fuse(0))
	names(t, e)
	is(t, "Sync behind a fuse", d.Sync("a"), api.ErrOff)
	ok(t, e.Make("a"), e.Append("a", "yz"), e.Sync("a"))
	if e.Off() || !d.Off() {
		t.Error("one disk's power is another one's")
	}
	ok(t, d.Crash(nil))
	has(t, d, "a", "", 0)
	has(t, e, "a", "yz", 2)
}

// notGiven tells a disk that New did not give, and that answers all the same.
func notGiven(t *testing.T, d *fs.Disk) {
	t.Helper()
	refused(t, d, "a", api.ErrArg)
	refused(t, d, "", api.ErrArg)
	names(t, d)
	is(t, "Fuse", d.Fuse(0), api.ErrArg)
	is(t, "Fuse", d.Fuse(-1), api.ErrArg)
	if d.Off() {
		t.Error("the power of what is no disk is off")
	}
	is(t, "Crash", d.Crash(nil), api.ErrArg)
	is(t, "Crash", d.Crash([]int{1}), api.ErrArg)
	refused(t, d, "a", api.ErrArg)
}

func TestFs2DisksThatNewDidNotGive(t *testing.T) {
	notGiven(t, nil)
	notGiven(t, &fs.Disk{})
	d := offDisk(t, "a")
	copied := *d
	notGiven(t, &copied)
	ok(t, d.Crash([]int{1}))
	has(t, d, "a", "abcd", 4)
	copied = *d
	notGiven(t, &copied)
	has(t, d, "a", "abcd", 4)
	*d = fs.Disk{}
	notGiven(t, d)
}

func TestFs3Example(t *testing.T) {
	d := fs.New()
	ok(t, d.Make("a"), d.Append("a", "xy"), d.Sync("a"), d.Append("a", "z"), d.Crash([]int{0}))
	has(t, d, "a", "xy", 2)
}

// chance are numbers that look like chance, the same in each run.
type chance uint64

// below is a number of 0 to n less 1.
func (c *chance) below(n int) int {
	*c = *c*6364136223846793005 + 1442695040888963407
	return int(uint64(*c) >> 33 % uint64(n))
}

// The script of doings by which the power goes off at each.
func script() []func(d *fs.Disk) api.Errno {
	return []func(d *fs.Disk) api.Errno{
		func(d *fs.Disk) api.Errno { return d.Make("a") },
		func(d *fs.Disk) api.Errno { return d.Append("a", "abc") },
		func(d *fs.Disk) api.Errno { return d.Sync("a") },
		func(d *fs.Disk) api.Errno { return d.Make("b") },
		func(d *fs.Disk) api.Errno { return d.Append("b", "vwx") },
		func(d *fs.Disk) api.Errno { return d.Append("a", "def") },
		func(d *fs.Disk) api.Errno { return d.Sync("b") },
		func(d *fs.Disk) api.Errno { return d.Append("b", "yz") },
		func(d *fs.Disk) api.Errno { return d.Rename("a", "c") },
		func(d *fs.Disk) api.Errno { return d.Append("c", "gh") },
		func(d *fs.Disk) api.Errno { return d.Rename("b", "c") },
		func(d *fs.Disk) api.Errno { return d.Sync("c") },
		func(d *fs.Disk) api.Errno { return d.Append("c", "0123") },
		func(d *fs.Disk) api.Errno { return d.Remove("c") },
	}
}

// At each doing, whatever survives, a file has its sure bytes, and a beginning of the others; and it is written on behind them.
func TestFs3CrashAtEachDoing(t *testing.T) {
	for n := range len(script()) + 1 {
		for keep := range 6 {
			told, d := fs.New(), fs.New() // the one runs up to the fuse's end with its power on
			ok(t, d.Fuse(n))
			for i, do := range script() {
				if i < n {
					ok(t, do(told), do(d))
				} else {
					is(t, "a doing behind a fuse", do(d), api.ErrOff)
				}
			}
			ok(t, d.Crash([]int{keep}))
			names(t, d, told.Names()...)
			for _, name := range told.Names() {
				all, err := told.Read(name)
				sure, err2 := told.Sure(name)
				ok(t, err, err2)
				left := all[:min(sure+keep, len(all))]
				has(t, d, name, left, len(left))
				ok(t, d.Append(name, "on"))
				has(t, d, name, left+"on", len(left))
			}
		}
	}
}

// plain is a disk as the document says it, word by word: a list of files.
type plain struct {
	files []plainFile
	fuse  int
	off   bool
}

type plainFile struct {
	name, sure, loose string
}

// at is the place of a file; -1: there is none.
func (p *plain) at(name string) int {
	return slices.IndexFunc(p.files, func(f plainFile) bool { return f.name == name })
}

// begins is what is answered ahead of a doing.
func (p *plain) begins(names ...string) api.Errno {
	for _, name := range names {
		if slices.Contains([]string{"", "A"}, name) {
			return api.ErrArg
		}
	}
	if p.off || p.fuse == 0 {
		p.off = true
		return api.ErrOff
	}
	p.fuse--
	return api.OK
}

// does is what a doing answers, and what is behind it.
func (p *plain) does(kind int, name, to, s string) api.Errno {
	told := []string{name}
	if kind == 3 {
		told = append(told, to)
	}
	if err := p.begins(told...); err != api.OK {
		return err
	}
	i := p.at(name)
	if kind == 0 && i >= 0 {
		return api.ErrArg
	}
	if kind != 0 && i < 0 {
		return api.ErrNone
	}
	switch kind {
	case 0:
		p.files = append(p.files, plainFile{name: name})
	case 1:
		p.files[i].loose += s
	case 2:
		p.files[i].sure, p.files[i].loose = p.files[i].sure+p.files[i].loose, ""
	case 3:
		f := p.files[i]
		p.files = slices.DeleteFunc(p.files, func(g plainFile) bool { return g.name == name || g.name == to })
		f.name = to
		p.files = append(p.files, f)
	case 4:
		p.files = slices.Delete(p.files, i, i+1)
	}
	return api.OK
}

// does is a doing of a disk, by its kind.
func does(d *fs.Disk, kind int, name, to, s string) api.Errno {
	switch kind {
	case 0:
		return d.Make(name)
	case 1:
		return d.Append(name, s)
	case 2:
		return d.Sync(name)
	case 3:
		return d.Rename(name, to)
	}
	return d.Remove(name)
}

// crash is what survives.
func (p *plain) crash(keep []int) {
	slices.SortFunc(p.files, func(a, b plainFile) int { return strings.Compare(a.name, b.name) })
	for i := range p.files {
		n := 0
		if len(keep) > 0 && keep[i%len(keep)] > 0 {
			n = min(keep[i%len(keep)], len(p.files[i].loose))
		}
		p.files[i].sure += p.files[i].loose[:n]
		p.files[i].loose = ""
	}
	p.off, p.fuse = false, -1
}

// like tells a disk that is not as the plain one.
func (p *plain) like(t *testing.T, d *fs.Disk) {
	t.Helper()
	l := []string{}
	for _, f := range p.files {
		l = append(l, f.name)
		if p.off {
			refused(t, d, f.name, api.ErrOff)
		} else {
			has(t, d, f.name, f.sure+f.loose, len(f.sure))
		}
	}
	slices.Sort(l)
	names(t, d, l...)
	if d.Off() != p.off {
		t.Errorf("Off is %v", d.Off())
	}
}

// Whatever is done, a disk is as the document's words say.
func TestFs3AsSaid(t *testing.T) {
	c := chance(5)
	pool := []string{"a", "b", "c", "log-1", "log-2", "0", "", "A"}
	for range 300 {
		d, p := fs.New(), &plain{fuse: -1}
		for range 60 {
			switch x := c.below(20); x {
			case 18:
				n := c.below(12) - 2
				ok(t, d.Fuse(n))
				p.fuse = n
			case 19:
				keep := make([]int, c.below(5))
				for i := range keep {
					keep[i] = c.below(9) - 2
				}
				ok(t, d.Crash(keep))
				p.crash(keep)
			default:
				kind := []int{0, 0, 0, 1, 1, 1, 1, 1, 1, 2, 2, 2, 3, 3, 4, 0, 1, 2}[x]
				name, to := pool[c.below(len(pool))], pool[c.below(len(pool))]
				s := "abcdefgh"[:c.below(9)]
				if got, want := does(d, kind, name, to, s), p.does(kind, name, to, s); got != want {
					t.Fatalf("the doing %d of %q, %q answered %d, not %d", kind, name, to, got, want)
				}
			}
			p.like(t, d)
		}
	}
}
