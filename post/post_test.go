package post_test

import (
	"math"
	"reflect"
	"slices"
	"strconv"
	"strings"
	"sync"
	"testing"

	"sorrel/api"
	"sorrel/post"
)

// The limits, as the chapters say them.
const (
	mostKind    = 15
	mostNumber  = 1<<40 - 1
	mostBytes   = 256 // of each text
	mostWrites  = 64
	mostPairs   = 512
	mostEntries = 512
	mostMap     = 64
	mostSeen    = 8
	mostText    = 1 << 18 // of a message as text
)

// of is so many bytes of one kind.
func of(b string, n int) string {
	return strings.Repeat(b, n)
}

// noise are numbers below n, the same each time.
func noise(seed uint32) func(n int) int {
	return func(n int) int {
		seed = seed*1664525 + 1013904223
		return int(seed>>8) % n
	}
}

// bytesOf is what layer 1's chapter says of a number's bytes.
func bytesOf(n int) string {
	var b []byte
	for n >= 128 {
		b = append(b, byte(n%128+128))
		n /= 128
	}
	return string(append(b, byte(n)))
}

// textOf is what layer 1's chapter says of Text.
func textOf(s string) string {
	return bytesOf(len(s)) + s
}

// flagOf is what is true or false as 1 or 0.
func flagOf(b bool) string {
	if b {
		return "\x01"
	}
	return "\x00"
}

// sealed is what layer 2's chapter says of Seal.
func sealed(s string) string {
	sum := ^uint32(0)
	for _, b := range []byte(s) {
		sum ^= uint32(b)
		for range 8 {
			if sum&1 == 1 {
				sum = sum>>1 ^ 0x82F63B78
			} else {
				sum >>= 1
			}
		}
	}
	sum = ^sum
	return s + string([]byte{byte(sum), byte(sum >> 8), byte(sum >> 16), byte(sum >> 24)})
}

// open is what is ahead of a seal.
func open(s string) string {
	return s[:len(s)-4]
}

// body is what the chapter says of a message's text, ahead of the seal, whether it may be or not.
func body(m api.Msg) string {
	s := ""
	for _, n := range []int{m.Kind, m.Shard, m.Other, m.Epoch, m.Client, m.Seq, m.Move} {
		s += bytesOf(n)
	}
	s += flagOf(m.Whole)
	s += bytesOf(m.Op.Kind) + textOf(m.Op.Key) + textOf(m.Op.Value) + textOf(m.Op.Old) + flagOf(m.Op.Has)
	s += bytesOf(len(m.Op.Writes))
	for _, x := range m.Op.Writes {
		s += textOf(x.Key) + textOf(x.Value) + flagOf(x.Gone)
	}
	s += textOf(m.Op.Span.Lo) + textOf(m.Op.Span.Hi) + bytesOf(m.Op.Limit)
	s += bytesOf(int(m.Reply.Err)) + textOf(m.Reply.Value) + flagOf(m.Reply.Has)
	s += bytesOf(len(m.Reply.Pairs))
	for _, x := range m.Reply.Pairs {
		s += textOf(x.Key) + textOf(x.Value)
	}
	s += textOf(m.Reply.Upto)
	s += bytesOf(len(m.Map))
	for _, x := range m.Map {
		s += bytesOf(x.Id) + textOf(x.Span.Lo) + textOf(x.Span.Hi) + bytesOf(x.Epoch) + bytesOf(x.Node) + bytesOf(x.State)
	}
	s += bytesOf(len(m.Entries))
	for _, x := range m.Entries {
		s += textOf(x.Key) + textOf(x.Value) + flagOf(x.Gone) + bytesOf(x.Seq)
	}
	s += bytesOf(len(m.Seen))
	for _, x := range m.Seen {
		s += bytesOf(x.Client) + bytesOf(x.Seq)
		s += bytesOf(int(x.Reply.Err)) + textOf(x.Reply.Value) + flagOf(x.Reply.Has) + textOf(x.Reply.Upto)
	}
	return s
}

// written is what the chapter says of a message's text.
func written(m api.Msg) string {
	return sealed(body(m))
}

// mayBe is what the chapter says of a message that may be, word by word.
func mayBe(m api.Msg) bool {
	if m.Kind < 1 || m.Kind > mostKind {
		return false
	}
	if len(m.Op.Writes) > mostWrites || len(m.Reply.Pairs) > mostPairs || len(m.Entries) > mostEntries {
		return false
	}
	if len(m.Map) > mostMap || len(m.Seen) > mostSeen {
		return false
	}
	numbers := []int{m.Shard, m.Other, m.Epoch, m.Client, m.Seq, m.Move, m.Op.Kind, m.Op.Limit, int(m.Reply.Err)}
	texts := []string{m.Op.Key, m.Op.Value, m.Op.Old, m.Op.Span.Lo, m.Op.Span.Hi, m.Reply.Value, m.Reply.Upto}
	for _, x := range m.Op.Writes {
		texts = append(texts, x.Key, x.Value)
	}
	for _, x := range m.Reply.Pairs {
		texts = append(texts, x.Key, x.Value)
	}
	for _, x := range m.Map {
		numbers = append(numbers, x.Id, x.Epoch, x.Node, x.State)
		texts = append(texts, x.Span.Lo, x.Span.Hi)
	}
	for _, x := range m.Entries {
		numbers = append(numbers, x.Seq)
		texts = append(texts, x.Key, x.Value)
	}
	for _, x := range m.Seen {
		numbers = append(numbers, x.Client, x.Seq, int(x.Reply.Err))
		texts = append(texts, x.Reply.Value, x.Reply.Upto)
		if len(x.Reply.Pairs) > 0 {
			return false
		}
	}
	return !slices.ContainsFunc(numbers, func(n int) bool { return n < 0 || n > mostNumber }) &&
		!slices.ContainsFunc(texts, func(s string) bool { return len(s) > mostBytes })
}

// plain is a message whose lists of no elements are nil.
func plain(m api.Msg) api.Msg {
	if len(m.Op.Writes) == 0 {
		m.Op.Writes = nil
	}
	if len(m.Reply.Pairs) == 0 {
		m.Reply.Pairs = nil
	}
	if len(m.Map) == 0 {
		m.Map = nil
	}
	if len(m.Entries) == 0 {
		m.Entries = nil
	}
	m.Seen = slices.Clone(m.Seen)
	for i := range m.Seen {
		if len(m.Seen[i].Reply.Pairs) == 0 {
			m.Seen[i].Reply.Pairs = nil
		}
	}
	if len(m.Seen) == 0 {
		m.Seen = nil
	}
	return m
}

// same tells whether two messages are the same.
func same(a, b api.Msg) bool {
	return reflect.DeepEqual(plain(a), plain(b))
}

// cursor goes over a text as the chapters say it.
type cursor struct {
	rest string
	ok   bool
}

// number is the number that the rest begins with, whatever form it has.
func (c *cursor) number() int {
	n := 0
	for i := 0; i < len(c.rest) && i < 9; i++ {
		n |= int(c.rest[i]&127) << (7 * i)
		if c.rest[i] < 128 {
			c.rest = c.rest[i+1:]
			return n
		}
	}
	c.ok, c.rest = false, ""
	return 0
}

// text is the text that the rest begins with.
func (c *cursor) text() string {
	n := c.number()
	if n > len(c.rest) {
		c.ok, c.rest = false, ""
		return ""
	}
	s := c.rest[:n]
	c.rest = c.rest[n:]
	return s
}

// each calls take as often as the number says that the rest begins with.
func (c *cursor) each(take func()) {
	for n := c.number(); n > 0 && c.ok; n-- {
		take()
	}
}

// span is the range of keys that the rest begins with.
func (c *cursor) span() api.Span {
	lo := c.text()
	return api.Span{Lo: lo, Hi: c.text()}
}

// flag is what is true or false, which the rest begins with, whatever number says it.
func (c *cursor) flag() bool {
	return c.number() != 0
}

// taken is what the chapter says of Take: of the only message whose text this could be, its text is held against it.
func taken(s string) (api.Msg, api.Errno) {
	if len(s) < 4 || sealed(open(s)) != s {
		return api.Msg{}, api.ErrPost
	}
	c := &cursor{rest: open(s), ok: true}
	var m api.Msg
	for _, n := range []*int{&m.Kind, &m.Shard, &m.Other, &m.Epoch, &m.Client, &m.Seq, &m.Move} {
		*n = c.number()
	}
	m.Whole = c.flag()
	m.Op.Kind = c.number()
	m.Op.Key, m.Op.Value, m.Op.Old = c.text(), c.text(), c.text()
	m.Op.Has = c.flag()
	c.each(func() { m.Op.Writes = append(m.Op.Writes, api.Write{Key: c.text(), Value: c.text(), Gone: c.flag()}) })
	m.Op.Span, m.Op.Limit = c.span(), c.number()
	m.Reply = api.Reply{Err: api.Errno(c.number()), Value: c.text(), Has: c.flag()}
	c.each(func() { m.Reply.Pairs = append(m.Reply.Pairs, api.Pair{Key: c.text(), Value: c.text()}) })
	m.Reply.Upto = c.text()
	c.each(func() {
		m.Map = append(m.Map, api.Shard{Id: c.number(), Span: c.span(), Epoch: c.number(), Node: c.number(), State: c.number()})
	})
	c.each(func() {
		m.Entries = append(m.Entries, api.Entry{Key: c.text(), Value: c.text(), Gone: c.flag(), Seq: c.number()})
	})
	c.each(func() {
		x := api.Seen{Client: c.number(), Seq: c.number()}
		x.Reply = api.Reply{Err: api.Errno(c.number()), Value: c.text(), Has: c.flag(), Upto: c.text()}
		m.Seen = append(m.Seen, x)
	})
	if !c.ok || !mayBe(m) || written(m) != s {
		return api.Msg{}, api.ErrPost
	}
	return m, api.OK
}

// rich is a message in which no two fields are the same, and none is zero.
func rich() api.Msg {
	return api.Msg{
		Kind: 9, Shard: 21, Other: 22, Epoch: 23, Client: 24, Seq: 25, Move: 26, Whole: true,
		Op: api.Op{
			Kind: 27, Key: "opkey", Value: "opvalue", Old: "opold", Has: true,
			Writes: []api.Write{{Key: "wa", Value: "wb"}, {Key: "wc", Value: "wd", Gone: true}},
			Span:   api.Span{Lo: "oplo", Hi: "ophi"}, Limit: 28,
		},
		Reply: api.Reply{Err: 29, Value: "rv", Has: true, Pairs: []api.Pair{{Key: "pa", Value: "pb"}, {Key: "pc", Value: "pd"}}, Upto: "ru"},
		Map: []api.Shard{
			{Id: 30, Span: api.Span{Lo: "ma", Hi: "mb"}, Epoch: 31, Node: 32, State: 33},
			{Id: 34, Span: api.Span{Lo: "mc", Hi: "md"}, Epoch: 35, Node: 36, State: 37},
		},
		Entries: []api.Entry{{Key: "ea", Value: "eb", Seq: 38}, {Key: "ec", Value: "ed", Gone: true, Seq: 39}},
		Seen: []api.Seen{
			{Client: 40, Seq: 41, Reply: api.Reply{Err: 42, Value: "sa", Has: true, Upto: "sb"}},
			{Client: 43, Seq: 44, Reply: api.Reply{Err: 45, Value: "sc", Upto: "sd"}},
		},
	}
}

// numbersOf are all numbers of a message like the rich one, but its kind.
func numbersOf(m *api.Msg) []*int {
	l := []*int{&m.Shard, &m.Other, &m.Epoch, &m.Client, &m.Seq, &m.Move, &m.Op.Kind, &m.Op.Limit, (*int)(&m.Reply.Err)}
	for i := range m.Map {
		l = append(l, &m.Map[i].Id, &m.Map[i].Epoch, &m.Map[i].Node, &m.Map[i].State)
	}
	for i := range m.Entries {
		l = append(l, &m.Entries[i].Seq)
	}
	for i := range m.Seen {
		l = append(l, &m.Seen[i].Client, &m.Seen[i].Seq, (*int)(&m.Seen[i].Reply.Err))
	}
	return l
}

// textsOf are all its texts.
func textsOf(m *api.Msg) []*string {
	l := []*string{&m.Op.Key, &m.Op.Value, &m.Op.Old, &m.Op.Span.Lo, &m.Op.Span.Hi, &m.Reply.Value, &m.Reply.Upto}
	for i := range m.Op.Writes {
		l = append(l, &m.Op.Writes[i].Key, &m.Op.Writes[i].Value)
	}
	for i := range m.Reply.Pairs {
		l = append(l, &m.Reply.Pairs[i].Key, &m.Reply.Pairs[i].Value)
	}
	for i := range m.Map {
		l = append(l, &m.Map[i].Span.Lo, &m.Map[i].Span.Hi)
	}
	for i := range m.Entries {
		l = append(l, &m.Entries[i].Key, &m.Entries[i].Value)
	}
	for i := range m.Seen {
		l = append(l, &m.Seen[i].Reply.Value, &m.Seen[i].Reply.Upto)
	}
	return l
}

// flagsOf is all in it that is true or false.
func flagsOf(m *api.Msg) []*bool {
	l := []*bool{&m.Whole, &m.Op.Has, &m.Reply.Has}
	for i := range m.Op.Writes {
		l = append(l, &m.Op.Writes[i].Gone)
	}
	for i := range m.Entries {
		l = append(l, &m.Entries[i].Gone)
	}
	for i := range m.Seen {
		l = append(l, &m.Seen[i].Reply.Has)
	}
	return l
}

// The lists of a message, by what they are.
const (
	writes = iota
	pairs
	shards
	entries
	seen
	lists
)

// mosts is how many elements each list may have.
func mosts() [lists]int {
	return [lists]int{mostWrites, mostPairs, mostMap, mostEntries, mostSeen}
}

// listed is a message with so many elements of one list, that are zero.
func listed(m api.Msg, list, n int) api.Msg {
	switch list {
	case writes:
		m.Op.Writes = make([]api.Write, n)
	case pairs:
		m.Reply.Pairs = make([]api.Pair, n)
	case shards:
		m.Map = make([]api.Shard, n)
	case entries:
		m.Entries = make([]api.Entry, n)
	case seen:
		m.Seen = make([]api.Seen, n)
	}
	return m
}

// variants are the rich message, and all like it but for one thing.
func variants() []api.Msg {
	l := []api.Msg{rich(), {Kind: 1}}
	add := func(change func(m *api.Msg)) {
		m := rich()
		change(&m)
		l = append(l, m)
	}
	for kind := -1; kind <= mostKind+2; kind++ {
		add(func(m *api.Msg) { m.Kind = kind })
		l = append(l, api.Msg{Kind: kind})
	}
	for _, kind := range []int{math.MinInt, -256, 1 << 32, 1<<32 + 1, mostNumber, math.MaxInt} {
		add(func(m *api.Msg) { m.Kind = kind })
	}
	first := rich()
	for i := range numbersOf(&first) {
		for _, n := range []int{math.MinInt, -1 << 40, -1, 0, 1, 127, 128, 1<<31 - 1, 1 << 32, mostNumber - 1, mostNumber, mostNumber + 1, 1 << 62, 1<<62 + 1, math.MaxInt} {
			add(func(m *api.Msg) { *numbersOf(m)[i] = n })
		}
	}
	for i := range textsOf(&first) {
		for _, s := range []string{"", "\x00", "\xff", "\n", "é", of("x", 127), of("x", 128), of("y", mostBytes-1), of("y", mostBytes), of("y", mostBytes+1), of("z", 1000)} {
			add(func(m *api.Msg) { *textsOf(m)[i] = s })
		}
	}
	for i := range flagsOf(&first) {
		add(func(m *api.Msg) { *flagsOf(m)[i] = !*flagsOf(m)[i] })
	}
	for list, most := range mosts() {
		for _, n := range []int{0, 1, 2, 3, most - 1, most, most + 1, 2 * most, 5000} {
			l = append(l, listed(rich(), list, n), listed(api.Msg{Kind: 2}, list, n))
		}
	}
	return l
}

// seenPairs are messages of which what a client did last has pairs.
func seenPairs() []api.Msg {
	var l []api.Msg
	for i := range mostSeen {
		for _, x := range [][]api.Pair{make([]api.Pair, 1), {{Key: "a", Value: "b"}, {Key: "c"}}} {
			m := listed(rich(), seen, mostSeen)
			m.Seen[i].Reply.Pairs = x
			l = append(l, m)
		}
	}
	return l
}

// hold holds what all three calls answer against what the chapter says of a message.
func hold(t *testing.T, m api.Msg) {
	t.Helper()
	want := api.OK
	if !mayBe(m) {
		want = api.ErrArg
	}
	if err := post.Check(m); err != want {
		t.Fatalf("Check(%#v) is %d, not %d", m, err, want)
	}
	s, err := post.Put(m)
	if want != api.OK {
		if s != "" || err != api.ErrArg {
			t.Fatalf("Put(%#v) is %q, %d, not ErrArg", m, s, err)
		}
		return
	}
	text := written(m)
	if len(text) > mostText {
		if s != "" || err != api.ErrArg {
			t.Fatalf("Put of a message of %d bytes is %d bytes, %d, not ErrArg", len(text), len(s), err)
		}
	} else if s != text || err != api.OK {
		t.Fatalf("Put(%#v) is %q, %d, not %q", m, s, err, text)
	}
	if back, err := post.Take(text); !same(back, m) || err != api.OK {
		t.Fatalf("Take of the text of %#v is %#v, %d", m, back, err)
	}
}

// holdText holds what Take answers against what the chapter says of a text.
func holdText(t *testing.T, s string) bool {
	t.Helper()
	want, wantErr := taken(s)
	m, err := post.Take(s)
	if err != wantErr || !same(m, want) {
		t.Fatalf("Take(%q) is %#v, %d, not %#v, %d", s, m, err, want, wantErr)
	}
	return err == api.OK
}

// refuse tells of a text that Take does not refuse with nothing beside.
func refuse(t *testing.T, name, s string) {
	t.Helper()
	if m, err := post.Take(s); err != api.ErrPost || !reflect.DeepEqual(m, api.Msg{}) {
		t.Errorf("%s: Take(%q) is %#v, %d, not ErrPost", name, s, m, err)
	}
}

func TestPo1Example(t *testing.T) {
	want := "\x03\x00\x00\x00\x02\x00\x00\x00" + of("\x00", 17)
	s, err := post.Put(api.Msg{Kind: api.MsgWhere, Client: 2})
	if err != api.OK || s != sealed(want) {
		t.Errorf("Put is %q, %d, not %q", s, err, sealed(want))
	}
	if m, err := post.Take(sealed(want)); err != api.OK || !same(m, api.Msg{Kind: 3, Client: 2}) {
		t.Errorf("Take is %#v, %d", m, err)
	}
}

// The whole text of a message, byte by byte.
func TestPo1Written(t *testing.T) {
	m := api.Msg{
		Kind: 1, Shard: 2, Other: 3, Epoch: 4, Client: 5, Seq: 6, Move: 300, Whole: true,
		Op:      api.Op{Kind: 8, Key: "a", Value: "bb", Old: "c", Has: true, Writes: []api.Write{{Key: "d", Value: "", Gone: true}}, Span: api.Span{Lo: "e", Hi: "f"}, Limit: 9},
		Reply:   api.Reply{Err: 160, Value: "g", Has: true, Pairs: []api.Pair{{Key: "h", Value: "i"}}, Upto: "j"},
		Map:     []api.Shard{{Id: 11, Span: api.Span{Lo: "k", Hi: "l"}, Epoch: 12, Node: 13, State: 3}},
		Entries: []api.Entry{{Key: "m", Value: "n", Gone: true, Seq: 14}},
		Seen:    []api.Seen{{Client: 15, Seq: 16, Reply: api.Reply{Err: 17, Value: "o", Has: true, Upto: "p"}}},
	}
	want := "\x01\x02\x03\x04\x05\x06\xac\x02\x01" +
		"\x08\x01a\x02bb\x01c\x01" + "\x01\x01d\x00\x01" + "\x01e\x01f\x09" +
		"\xa0\x01\x01g\x01" + "\x01\x01h\x01i" + "\x01j" +
		"\x01\x0b\x01k\x01l\x0c\x0d\x03" +
		"\x01\x01m\x01n\x01\x0e" +
		"\x01\x0f\x10\x11\x01o\x01\x01p"
	s, err := post.Put(m)
	if err != api.OK || s != sealed(want) {
		t.Errorf("Put is %q, %d, not %q", s, err, sealed(want))
	}
	if back, err := post.Take(sealed(want)); err != api.OK || !same(back, m) {
		t.Errorf("Take is %#v, %d", back, err)
	}
}

// What may not be of the kind, of each number, text and list alone.
func TestPo1AsSaid(t *testing.T) {
	right, wrong := 0, 0
	for _, m := range append(variants(), seenPairs()...) {
		hold(t, m)
		if mayBe(m) {
			right++
		} else {
			wrong++
		}
	}
	if right < 300 || wrong < 150 {
		t.Errorf("only %d may be, and %d may not", right, wrong)
	}
}

func TestPo1CheckNamed(t *testing.T) {
	for kind := api.MsgAsk; kind <= api.MsgFail; kind++ {
		if err := post.Check(api.Msg{Kind: kind}); err != api.OK {
			t.Errorf("Check of the kind %d is %d", kind, err)
		}
	}
	wrongs := map[string]api.Msg{
		"zero":                   {},
		"of the kind 16":         {Kind: 16},
		"of the kind -1":         {Kind: -1},
		"of the shard -1":        {Kind: 1, Shard: -1},
		"of a great epoch":       {Kind: 1, Epoch: 1 << 40},
		"of an error below 0":    {Kind: 1, Reply: api.Reply{Err: -1}},
		"of a great error":       {Kind: 1, Reply: api.Reply{Err: 1 << 40}},
		"of a key of 257":        {Kind: 1, Op: api.Op{Key: of("k", 257)}},
		"of 65 writes":           {Kind: 1, Op: api.Op{Writes: make([]api.Write, 65)}},
		"of 513 pairs":           {Kind: 1, Reply: api.Reply{Pairs: make([]api.Pair, 513)}},
		"of 65 shards":           {Kind: 1, Map: make([]api.Shard, 65)},
		"of 513 entries":         {Kind: 1, Entries: make([]api.Entry, 513)},
		"of 9 clients":           {Kind: 1, Seen: make([]api.Seen, 9)},
		"of a reply seen, pairs": {Kind: 1, Seen: []api.Seen{{Reply: api.Reply{Pairs: make([]api.Pair, 1)}}}},
		"of the state -1":        {Kind: 1, Map: []api.Shard{{}, {State: -1}}},
	}
	for name, m := range wrongs {
		if err := post.Check(m); err != api.ErrArg {
			t.Errorf("%s: Check is %d, not ErrArg", name, err)
		}
		if s, err := post.Put(m); s != "" || err != api.ErrArg {
			t.Errorf("%s: Put is %q, %d, not ErrArg", name, s, err)
		}
	}
}

// What the kind gives no meaning to may be in a message, and keys, ranges and clients may be any.
func TestPo1NoMoreIsAsked(t *testing.T) {
	for kind := 1; kind <= mostKind; kind++ {
		m := rich()
		m.Kind = kind
		hold(t, m)
	}
	for _, m := range []api.Msg{
		{Kind: 1, Op: api.Op{Kind: 99, Key: of("k", 256), Limit: mostNumber}},
		{Kind: 1, Client: mostNumber, Op: api.Op{Span: api.Span{Lo: "z", Hi: "a"}}},
		{Kind: 4, Map: []api.Shard{{Id: 1}, {Id: 1}, {State: 9, Node: 77, Span: api.Span{Lo: "b", Hi: "a"}}}},
		{Kind: 8, Entries: []api.Entry{{Key: "b", Seq: 1}, {Key: "a", Seq: 9}, {Key: "a", Seq: 9, Gone: true, Value: "x"}}},
		{Kind: 8, Seen: []api.Seen{{Client: 99}, {Client: 1}, {Client: 1, Reply: api.Reply{Err: mostNumber}}}},
	} {
		hold(t, m)
	}
}

// lengthy is a message whose text has so many bytes.
func lengthy(t *testing.T, n int) api.Msg {
	t.Helper()
	m := api.Msg{Kind: 8, Reply: api.Reply{Pairs: make([]api.Pair, mostPairs)}, Entries: make([]api.Entry, mostEntries)}
	rest := n - len(written(m))
	fill := func(s *string) {
		// A length of 128 and more has a byte more.
		size := min(rest, 127)
		if rest > 300 {
			size = 256
		}
		*s = of("x", size)
		rest -= len(textOf(*s)) - 1
	}
	for i := range m.Entries {
		fill(&m.Entries[i].Value)
		fill(&m.Entries[i].Key)
	}
	for i := range m.Reply.Pairs {
		fill(&m.Reply.Pairs[i].Value)
		fill(&m.Reply.Pairs[i].Key)
	}
	if len(written(m)) != n {
		t.Fatalf("a message of %d bytes, not %d", len(written(m)), n)
	}
	return m
}

func TestPo1LongTexts(t *testing.T) {
	for _, n := range []int{mostText - 4, mostText - 1, mostText, mostText + 1, mostText + 3, mostText + 4, mostText + 5, 2 * mostText} {
		m := lengthy(t, n)
		hold(t, m)
		s, err := post.Put(m)
		if n <= mostText && (len(s) != n || err != api.OK) || n > mostText && (s != "" || err != api.ErrArg) {
			t.Errorf("Put of a message of %d bytes is %d bytes, %d", n, len(s), err)
		}
	}
}

// All that a message can hold: it may be, but its text is too long.
func TestPo1All(t *testing.T) {
	m := rich()
	for list, most := range mosts() {
		m = listed(m, list, most)
	}
	for _, n := range numbersOf(&m) {
		*n = mostNumber
	}
	hold(t, m)
	if _, err := post.Put(m); err != api.OK {
		t.Errorf("Put of great numbers is %d", err)
	}
	for _, s := range textsOf(&m) {
		*s = of("\xff", mostBytes)
	}
	hold(t, m)
	if s, err := post.Put(m); s != "" || err != api.ErrArg {
		t.Errorf("Put of long texts is %d bytes, %d", len(s), err)
	}
}

// faults are texts with a right seal that are no message's, by what is wrong.
func faults() map[string]string {
	where := "\x03\x00\x00\x00\x02\x00\x00"
	zeros := func(n int) string { return of("\x00", n) }
	great := bytesOf(mostNumber + 1)
	m := map[string]string{
		"nothing":                   "",
		"a byte less":               where + zeros(17),
		"a byte more":               where + zeros(19),
		"a byte more that is one":   where + zeros(18) + "\x01",
		"the kind 0":                "\x00" + zeros(24),
		"the kind 16":               "\x10" + zeros(24),
		"the kind 3 in two bytes":   "\x83\x00" + zeros(24),
		"a great number":            "\x03" + great + zeros(23),
		"a number above 2^62":       "\x03\xff\xff\xff\xff\xff\xff\xff\xff\x7f" + zeros(23),
		"a number of ten bytes":     "\x03\xff\xff\xff\xff\xff\xff\xff\xff\xff\x01" + zeros(23),
		"a nought in two bytes":     "\x03\x80\x00" + zeros(23),
		"a number without an end":   "\x03" + of("\x80", 8),
		"true as 2":                 where + "\x02" + zeros(17),
		"true as 128":               where + "\x80\x01" + zeros(17),
		"true as 255 and 1":         where + "\xff\x01" + zeros(17),
		"false in two bytes":        where + "\x80\x00" + zeros(17),
		"a text of more than there": where + zeros(2) + "\x7f" + zeros(15),
		"a length without a text":   where + zeros(2) + "\x01",
		"a length in two bytes":     where + zeros(2) + "\x81\x00x" + zeros(15),
		"a text of 257":             where + zeros(2) + textOf(of("x", 257)) + zeros(15),
		"a text of 2^18":            where + zeros(2) + textOf(of("x", mostText)) + zeros(15),
		"a text of more than 2^18":  where + zeros(2) + textOf(of("x", mostText+1)) + zeros(15),
		"65 writes":                 where + zeros(6) + bytesOf(65) + zeros(65*3) + zeros(11),
		"513 pairs":                 where + zeros(13) + bytesOf(513) + zeros(513*2) + zeros(4),
		"65 shards":                 where + zeros(15) + bytesOf(65) + zeros(65*6) + zeros(2),
		"513 entries":               where + zeros(16) + bytesOf(513) + zeros(513*4) + zeros(1),
		"9 clients":                 where + zeros(17) + bytesOf(9) + zeros(9*6),
		"2^40 clients":              where + zeros(17) + bytesOf(1<<40),
		"2^62 writes":               where + zeros(6) + bytesOf(1<<62) + zeros(11),
		"one write, none there":     where + zeros(6) + "\x01",
		"a write that is half":      where + zeros(6) + "\x01\x01a",
		"2 clients, one there":      where + zeros(17) + "\x02" + zeros(6),
		"no clients, one there":     where + zeros(17) + "\x00" + zeros(6),
		"texts":                     "no message",
		"two messages":              where + zeros(18) + where + zeros(18),
		"a seal twice":              sealed(where + zeros(18)),
	}
	for name, s := range m {
		m[name] = sealed(s)
	}
	return m
}

func TestPo1TakeRefuses(t *testing.T) {
	for name, s := range faults() {
		refuse(t, name, s)
		holdText(t, s)
	}
	// The same beginning, but right.
	if _, err := post.Take(sealed("\x03\x00\x00\x00\x02\x00\x00" + of("\x00", 18))); err != api.OK {
		t.Errorf("Take is %d", err)
	}
}

// A seal that is not right, and texts too short for one.
func TestPo1TakeSeal(t *testing.T) {
	for _, m := range []api.Msg{{Kind: 3, Client: 2}, rich()} {
		s := written(m)
		for n := range len(s) {
			refuse(t, "cut off at "+strconv.Itoa(n), s[:n])
			refuse(t, "begun at "+strconv.Itoa(n+1), s[n+1:])
		}
		refuse(t, "more behind", s+"\x00")
		refuse(t, "more ahead", "\x00"+s)
		refuse(t, "twice", s+s)
		refuse(t, "without a seal", open(s))
		refuse(t, "with a seal of noughts", open(s)+"\x00\x00\x00\x00")
		tail := []byte(s[len(s)-4:])
		slices.Reverse(tail)
		refuse(t, "with a seal the other way round", open(s)+string(tail))
		for i := len(s) - 4; i < len(s); i++ {
			for x := 1; x < 256; x++ {
				b := []byte(s)
				b[i] ^= byte(x)
				refuse(t, "with another seal", string(b))
			}
		}
	}
	for n := range 9 {
		refuse(t, "noughts", of("\x00", n))
		refuse(t, "bytes of 255", of("\xff", n))
	}
}

// Each byte of some texts is each other one, with a right seal.
func TestPo1TakeBytes(t *testing.T) {
	small := api.Msg{Kind: 6, Shard: 200, Op: api.Op{Key: "a", Writes: make([]api.Write, 1)}, Map: make([]api.Shard, 1), Seen: make([]api.Seen, 1)}
	fit := 0
	for _, m := range []api.Msg{{Kind: 3, Client: 2}, small, rich()} {
		s := body(m)
		for i := range s {
			for x := range 256 {
				if holdText(t, sealed(s[:i]+string([]byte{byte(x)})+s[i+1:])) {
					fit++
				}
			}
		}
	}
	if fit < 5000 {
		t.Errorf("only %d texts are messages'", fit)
	}
}

// Texts that are cut off, filled in, or longer by some bytes, with a right seal.
func TestPo1TakeMixed(t *testing.T) {
	next := noise(5)
	fit := 0
	for range 20000 {
		s := []byte(body(mixed(next)))
		for range 1 + next(2) {
			i := next(len(s) + 1)
			switch next(4) {
			case 0:
				s = slices.Delete(s, i, min(len(s), i+1+next(3)))
			case 1:
				s = slices.Insert(s, i, byte(next(3)))
			case 2:
				s = s[:i]
			case 3:
				s = slices.Insert(s, i, byte(128+next(128)), byte(next(3)))
			}
		}
		if holdText(t, sealed(string(s))) {
			fit++
		}
	}
	if fit < 500 {
		t.Errorf("only %d texts are messages'", fit)
	}
}

// mixed is some message that may be.
func mixed(next func(int) int) api.Msg {
	number := func() int { return next(1<<(1+next(23))) << next(17) }
	text := func() string { return of(string([]byte{byte(next(256))}), next(1+next(6))) }
	flag := func() bool { return next(2) == 1 }
	m := api.Msg{Kind: 1 + next(mostKind), Whole: flag()}
	for range next(3) {
		m.Op.Writes = append(m.Op.Writes, api.Write{})
	}
	for range next(3) {
		m.Reply.Pairs = append(m.Reply.Pairs, api.Pair{})
	}
	for range next(3) {
		m.Map = append(m.Map, api.Shard{})
	}
	for range next(3) {
		m.Entries = append(m.Entries, api.Entry{})
	}
	for range next(3) {
		m.Seen = append(m.Seen, api.Seen{})
	}
	for _, n := range numbersOf(&m) {
		if flag() {
			*n = number()
		}
	}
	for _, s := range textsOf(&m) {
		*s = text()
	}
	for _, b := range flagsOf(&m) {
		*b = flag()
	}
	return m
}

func TestPo2TakeOfPut(t *testing.T) {
	next := noise(2)
	for range 5000 {
		m := mixed(next)
		hold(t, m)
		s, err := post.Put(m)
		if err != api.OK {
			t.Fatalf("Put(%#v) is %d", m, err)
		}
		if back, err := post.Take(s); !same(back, m) || err != api.OK {
			t.Fatalf("Take of Put of %#v is %#v, %d", m, back, err)
		}
	}
}

// No two of the variants, nor of many mixed ones, have one text.
func TestPo2ToldApart(t *testing.T) {
	next := noise(3)
	l := variants()
	for range 3000 {
		l = append(l, mixed(next))
	}
	had := map[string]api.Msg{}
	for _, m := range l {
		s, err := post.Put(m)
		if err != api.OK {
			continue
		}
		if other, ok := had[s]; ok && !same(other, m) {
			t.Fatalf("%#v and %#v have one text", other, m)
		}
		had[s] = m
	}
	if len(had) < 3000 {
		t.Errorf("only %d texts", len(had))
	}
}

// One piece of what stands in two places is not the same as in one place: what a text ends with begins no other one.
func TestPo2PiecesStandApart(t *testing.T) {
	a := api.Msg{Kind: 1, Op: api.Op{Key: "ab", Value: "c"}}
	for _, b := range []api.Msg{
		{Kind: 1, Op: api.Op{Key: "a", Value: "bc"}},
		{Kind: 1, Op: api.Op{Key: "abc"}},
		{Kind: 1, Op: api.Op{Value: "abc"}},
		{Kind: 1, Op: api.Op{Key: "ab", Old: "c"}},
		{Kind: 1, Op: api.Op{Key: "ab", Value: "c", Writes: make([]api.Write, 1)}},
		{Kind: 1, Op: api.Op{Key: "ab", Value: "c"}, Reply: api.Reply{Pairs: make([]api.Pair, 1)}},
		{Kind: 1, Op: api.Op{Key: "ab", Value: "c"}, Map: make([]api.Shard, 1)},
		{Kind: 1, Op: api.Op{Key: "ab", Value: "c"}, Entries: make([]api.Entry, 1)},
		{Kind: 1, Op: api.Op{Key: "ab", Value: "c"}, Seen: make([]api.Seen, 1)},
	} {
		s, _ := post.Put(a)
		other, err := post.Put(b)
		if s == other || err != api.OK {
			t.Errorf("%#v has the text %q, too", b, s)
		}
	}
}

// Up to four bytes in a row ahead of the seal are others.
func TestPo2OtherBytes(t *testing.T) {
	next := noise(6)
	for _, m := range []api.Msg{{Kind: 3, Client: 2}, rich()} {
		s := written(m)
		for i := range open(s) {
			for x := 1; x < 256; x++ {
				b := []byte(s)
				b[i] ^= byte(x)
				refuse(t, "a byte", string(b))
			}
			for n := 2; n <= 4 && i+n <= len(s)-4; n++ {
				for range 200 {
					b := []byte(s)
					for j := range n {
						b[i+j] ^= byte(next(256))
					}
					if string(b) != s {
						refuse(t, strconv.Itoa(n)+" bytes", string(b))
					}
				}
			}
		}
	}
}

// roomy is the rich message, its lists pieces of longer ones with what may not be behind their ends.
func roomy() api.Msg {
	m := rich()
	m.Op.Writes = append(m.Op.Writes, api.Write{Key: of("x", 300)})[:2]
	m.Reply.Pairs = append(m.Reply.Pairs, api.Pair{Key: of("x", 300)})[:2]
	m.Map = append(m.Map, api.Shard{Id: -1})[:2]
	m.Entries = append(m.Entries, api.Entry{Seq: -1})[:2]
	m.Seen = append(m.Seen, api.Seen{Seq: -1})[:2]
	m.Seen[0].Reply.Pairs = append(make([]api.Pair, 0, 3), api.Pair{Key: "x"})[:0]
	return m
}

// copied is a message with lists of its own, which have what lies behind the ends of the others, too.
func copied(m api.Msg) [5]any {
	return [5]any{
		slices.Clone(m.Op.Writes[:cap(m.Op.Writes)]),
		slices.Clone(m.Reply.Pairs[:cap(m.Reply.Pairs)]),
		slices.Clone(m.Map[:cap(m.Map)]),
		slices.Clone(m.Entries[:cap(m.Entries)]),
		slices.Clone(m.Seen[:cap(m.Seen)]),
	}
}

func TestR3NothingIsChanged(t *testing.T) {
	m := roomy()
	was := copied(m)
	s, err := post.Put(m)
	if post.Check(m) != api.OK || err != api.OK || s != written(rich()) {
		t.Errorf("Put is %q, %d, not %q", s, err, written(rich()))
	}
	if !reflect.DeepEqual(copied(m), was) || !same(m, rich()) {
		t.Error("a list that was handed in is changed")
	}
	m.Seen[1].Seq = -1
	was = copied(m)
	if _, err := post.Put(m); err != api.ErrArg || !reflect.DeepEqual(copied(m), was) {
		t.Error("a list that was handed in is changed")
	}
}

// What is handed in is only read: it may be put in two places at a time.
func TestR3OnlyRead(t *testing.T) {
	m := rich()
	want := written(m)
	var all sync.WaitGroup
	for range 8 {
		all.Go(func() {
			for range 50 {
				if s, err := post.Put(m); s != want || err != api.OK {
					t.Errorf("Put is %q, %d", s, err)
				}
			}
		})
	}
	all.Wait()
}

func TestR3AnswersAreNew(t *testing.T) {
	s := written(rich())
	a, _ := post.Take(s)
	b, _ := post.Take(s)
	for _, n := range numbersOf(&b) {
		*n = -7
	}
	for _, x := range textsOf(&b) {
		*x = "spoiled"
	}
	for _, x := range flagsOf(&b) {
		*x = !*x
	}
	b.Map = append(b.Map[:1], api.Shard{}, api.Shard{})
	if c, err := post.Take(s); !same(a, rich()) || !same(c, rich()) || err != api.OK {
		t.Errorf("the messages have become %#v and %#v", a, c)
	}
	// What is handed in afterwards is another one.
	m := rich()
	text, _ := post.Put(m)
	m.Entries[0].Key = "spoiled"
	if text != s {
		t.Errorf("the text has become %q", text)
	}
}

// nil and the empty list are the same.
func TestR3EmptyLists(t *testing.T) {
	m := api.Msg{Kind: 5}
	for list := range lists {
		m = listed(m, list, 0)
	}
	hold(t, m)
	if s, _ := post.Put(m); s != written(api.Msg{Kind: 5}) {
		t.Errorf("Put is %q", s)
	}
	m = rich()
	m.Seen[0].Reply.Pairs = []api.Pair{}
	if s, err := post.Put(m); s != written(rich()) || err != api.OK {
		t.Errorf("Put is %q, %d", s, err)
	}
}

// Texts of any bytes, also those that say much more than they have: each call ends.
func TestR1AnyTexts(t *testing.T) {
	next := noise(8)
	for range 20000 {
		b := make([]byte, next(60))
		for i := range b {
			b[i] = byte(next(1 << (1 + next(8))))
		}
		holdText(t, string(b))
		holdText(t, sealed(string(b)))
	}
	for _, b := range []string{"\x00", "\x01", "\x7f", "\x80", "\xff"} {
		for _, n := range []int{1000, mostText, mostText + 1, 1 << 22} {
			refuse(t, "many of one kind", sealed(of(b, n)))
		}
	}
	// The counts are right, each text is as long as a text can be, but too long.
	long := "\x03" + of("\x00", 23) + textOf("") + bytesOf(512) + of(textOf(of("x", mostText)), 16)
	refuse(t, "long texts", sealed(long))
}

// Messages of any kind, also those of very long lists: each call ends.
func TestR1AnyMessages(t *testing.T) {
	for list := range lists {
		hold(t, listed(api.Msg{Kind: 1}, list, 1<<20))
		hold(t, listed(api.Msg{}, list, 1<<20))
	}
	hold(t, api.Msg{Kind: 1, Op: api.Op{Key: of("x", 1<<24)}})
	m := rich()
	for _, n := range numbersOf(&m) {
		*n = math.MinInt
	}
	hold(t, m)
	for _, n := range numbersOf(&m) {
		*n = math.MaxInt
	}
	hold(t, m)
}

// What is answered hangs on what is handed in alone.
func TestR4Again(t *testing.T) {
	next := noise(9)
	for range 200 {
		m := mixed(next)
		s, _ := post.Put(m)
		post.Take(s[1:])
		post.Check(api.Msg{Kind: -1})
		if again, err := post.Put(m); again != s || err != api.OK {
			t.Fatalf("Put(%#v) is %q, then %q, %d", m, s, again, err)
		}
	}
}
