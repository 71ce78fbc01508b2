package sorted_test

import (
	"fmt"
	"iter"
	"maps"
	"math"
	"slices"
	"strconv"
	"strings"
	"testing"

	"sorrel/sorted"
)

// edges are keys that are easily taken one for the other, rising.
func edges() []string {
	return []string{
		"", "\x00", "\x00\x00", "\x00a", "\n", " ", "0", "10", "9", "A", "Z", "a", "a\x00", "a\x00b", "a ", "aa", "ab", "b",
		strings.Repeat("b", 64), strings.Repeat("b", 65), strings.Repeat("b", 1<<16), strings.Repeat("b", 1<<16) + "a",
		"e\u0301", "z", "\x7f", "\x80", "\xc3", "\u00e9", "\ufffd", "\U0001f600", "\xff", "\xff\x00", "\xff\xff",
	}
}

// of is a map with these keys; each one's value is its place.
func of(keys ...string) *sorted.Map[int] {
	m := sorted.New[int]()
	for i, key := range keys {
		m.Put(key, i)
	}
	return m
}

// is tells a call that did not answer what it should.
func is[T comparable](t *testing.T, what string, got, want T) {
	t.Helper()
	if got != want {
		t.Errorf("%s answered %v, not %v", what, got, want)
	}
}

// list tells texts that are not these.
func list(t *testing.T, what string, got, want []string) {
	t.Helper()
	if !slices.Equal(got, want) {
		t.Errorf("%s: %.60q, not %.60q", what, got, want)
	}
}

// gone are the keys, and their values, that are gone over.
func gone[V any](seq iter.Seq2[string, V]) ([]string, []V) {
	var keys []string
	var values []V
	for key, v := range seq {
		keys, values = append(keys, key), append(values, v)
	}
	return keys, values
}

// has tells a map that does not have just this.
func has(t *testing.T, m *sorted.Map[int], want map[string]int) {
	t.Helper()
	is(t, "Len", m.Len(), len(want))
	for key, v := range want {
		if got, ok := m.Get(key); got != v || !ok {
			t.Errorf("Get(%.60q) answered %d, %t; not %d", key, got, ok, v)
		}
	}
	rising := slices.Sorted(maps.Keys(want))
	list(t, "Keys", m.Keys("", math.MaxInt), rising)
	keys, values := gone(m.From(""))
	list(t, "From", keys, rising)
	for i, key := range keys {
		is(t, "From at "+key, values[i], want[key])
	}
	first, ok := m.First()
	is(t, "whether there is a first key", ok, len(rising) > 0)
	if ok {
		is(t, "First", first, rising[0])
	} else {
		is(t, "First", first, "")
	}
}

// lacks tells a map that has a key.
func lacks(t *testing.T, m *sorted.Map[int], key string) {
	t.Helper()
	if v, ok := m.Get(key); v != 0 || ok {
		t.Errorf("Get(%.60q) answered %d, %t", key, v, ok)
	}
}

func TestSo1New(t *testing.T) {
	m := sorted.New[int]()
	has(t, m, nil)
	for _, key := range edges() {
		lacks(t, m, key)
		is(t, "Drop", m.Drop(key), false)
		list(t, "Keys", m.Keys(key, 9), nil)
	}
	has(t, m, nil)
}

func TestSo1Calls(t *testing.T) {
	m := sorted.New[int]()
	is(t, "Put b", m.Put("b", 1), false)
	is(t, "Put a", m.Put("a", 2), false)
	has(t, m, map[string]int{"a": 2, "b": 1})
	is(t, "Put b once more", m.Put("b", 3), true)
	is(t, "Put b of the same", m.Put("b", 3), true)
	has(t, m, map[string]int{"a": 2, "b": 3})
	lacks(t, m, "c")
	lacks(t, m, "")
	is(t, "Drop c", m.Drop("c"), false)
	is(t, "Drop b", m.Drop("b"), true)
	is(t, "Drop b once more", m.Drop("b"), false)
	lacks(t, m, "b")
	has(t, m, map[string]int{"a": 2})
	is(t, "Put b anew", m.Put("b", 4), false)
	has(t, m, map[string]int{"a": 2, "b": 4})
	is(t, "Drop a", m.Drop("a"), true)
	is(t, "Drop b", m.Drop("b"), true)
	has(t, m, nil)
	is(t, "Put a behind all", m.Put("a", 5), false)
	has(t, m, map[string]int{"a": 5})
}

// A key whose value is the zero one is there.
func TestSo1ZeroValues(t *testing.T) {
	m := sorted.New[int]()
	is(t, "Put", m.Put("a", 0), false)
	has(t, m, map[string]int{"a": 0})
	is(t, "Put of another one", m.Put("a", 7), true)
	is(t, "Put of 0", m.Put("a", 0), true)
	has(t, m, map[string]int{"a": 0})
	is(t, "Drop", m.Drop("a"), true)
	has(t, m, nil)
}

func TestSo1KeysAreAnyTexts(t *testing.T) {
	m, want := sorted.New[int](), map[string]int{}
	for i, key := range edges() {
		lacks(t, m, key)
		is(t, "Put", m.Put(key, i+1), false)
		want[key] = i + 1
		has(t, m, want)
	}
	for _, key := range edges() {
		is(t, "Put once more", m.Put(key, -want[key]), true)
		want[key] = -want[key]
	}
	has(t, m, want)
	for _, key := range edges() {
		is(t, "Drop", m.Drop(key), true)
		delete(want, key)
		lacks(t, m, key)
		has(t, m, want)
	}
}

// one tells a map of values of a type that does not keep one, and answer the zero value where there is none.
func one[V any](t *testing.T, what string, v V, same func(a, b V) bool) {
	t.Helper()
	var none V
	m := sorted.New[V]()
	if got, ok := m.Get("a"); !same(got, none) || ok {
		t.Errorf("%s: Get of none answered %v, %t", what, got, ok)
	}
	m.Put("b", none)
	is(t, what+": Put", m.Put("a", v), false)
	if got, ok := m.Get("a"); !same(got, v) || !ok {
		t.Errorf("%s: Get answered %v, %t", what, got, ok)
	}
	keys, values := gone(m.From(""))
	list(t, what+": From", keys, []string{"a", "b"})
	if len(values) != 2 || !same(values[0], v) || !same(values[1], none) {
		t.Errorf("%s: From went over %v", what, values)
	}
	is(t, what+": Drop", m.Drop("a"), true)
	if got, ok := m.Get("a"); !same(got, none) || ok {
		t.Errorf("%s: Get of what was dropped answered %v, %t", what, got, ok)
	}
}

// equal tells whether two values are the same.
func equal[V comparable](a, b V) bool {
	return a == b
}

func TestSo1ValuesOfAnyType(t *testing.T) {
	type pair struct {
		a string
		b [2]int
	}
	n := 5
	one(t, "int", 5, equal)
	one(t, "text", "x", equal)
	one(t, "bool", true, equal)
	one(t, "float", math.Inf(-1), equal)
	one(t, "nothing", struct{}{}, equal)
	one(t, "struct", pair{"x", [2]int{1, 2}}, equal)
	one(t, "pointer", &n, equal)
	one(t, "error", error(fmt.Errorf("x")), equal)
	one(t, "any", any(pair{a: "y"}), equal)
	one(t, "channel", make(chan int), equal)
	one(t, "map of this kind", of("a"), equal)
	one(t, "list", []int{1, 2}, slices.Equal)
	one(t, "map", map[string]int{"x": 1}, maps.Equal)
	one(t, "function", func() int { return 5 }, func(a, b func() int) bool {
		return (a == nil) == (b == nil) && (a == nil || a() == b())
	})
}

func TestSo1MapsStandApart(t *testing.T) {
	a, b := of("x", "y"), of("y", "z")
	a.Put("z", 7)
	b.Drop("y")
	has(t, a, map[string]int{"x": 0, "y": 1, "z": 7})
	has(t, b, map[string]int{"z": 1})
}

func TestSo2Example(t *testing.T) {
	m := sorted.New[string]()
	m.Put("b", "")
	m.Put("a", "")
	list(t, "Keys", m.Keys("", 9), []string{"a", "b"})
}

// Keys, From and First from each edge, with each third one of them put, against the chapter's words.
func TestSo2FromEachKey(t *testing.T) {
	all := edges()
	for drop := range 4 {
		m := of(all...)
		var there []string
		for i, key := range all {
			if i%3 == drop {
				m.Drop(key)
			} else {
				there = append(there, key)
			}
		}
		for _, from := range append(all, "\x00\x00\x00", "aaa", "c", "\xff\xff\xff", "\xfe") {
			rest := slices.DeleteFunc(slices.Clone(there), func(key string) bool { return key < from })
			for most := range len(there) + 2 {
				list(t, fmt.Sprintf("Keys(%.9q, %d)", from, most), m.Keys(from, most), rest[:min(most, len(rest))])
			}
			for _, most := range []int{-1, -2, math.MinInt} {
				list(t, fmt.Sprintf("Keys(%.9q, %d)", from, most), m.Keys(from, most), nil)
			}
			list(t, fmt.Sprintf("Keys(%.9q)", from), m.Keys(from, math.MaxInt), rest)
			keys, values := gone(m.From(from))
			list(t, fmt.Sprintf("From(%.9q)", from), keys, rest)
			for i, key := range keys {
				is(t, "From's value", values[i], slices.Index(all, key))
			}
		}
		first, ok := m.First()
		is(t, "First", first, there[0])
		is(t, "whether there is one", ok, true)
	}
}

// The first key may be the empty text.
func TestSo2First(t *testing.T) {
	m := of("b", "", "a")
	for _, want := range []string{"", "a", "b"} {
		first, ok := m.First()
		is(t, "First", first, want)
		is(t, "whether there is one", ok, true)
		m.Drop(want)
	}
	first, ok := m.First()
	is(t, "First of none", first, "")
	is(t, "whether there is one", ok, false)
	m.Put("c", 1)
	m.Put("d", 1)
	first, _ = m.First()
	is(t, "First", first, "c")
}

// A list that was answered is the caller's.
func TestSo2KeysAreNewMemory(t *testing.T) {
	m := of("a", "b", "c")
	was := m.Keys("", 9)
	m.Drop("b")
	m.Put("aa", 1)
	list(t, "Keys that were answered", was, []string{"a", "b", "c"})
	other := m.Keys("", 9)
	for i := range was {
		was[i] = "x"
	}
	_ = append(was[:1], "y", "z")
	list(t, "Keys of another call", other, []string{"a", "aa", "c"})
	list(t, "Keys", m.Keys("", 9), []string{"a", "aa", "c"})
}

// From goes no farther than it is let go.
func TestSo2FromStops(t *testing.T) {
	all := edges()
	m := of(all...)
	for from := range all {
		for stop := from; stop < len(all); stop++ {
			var keys []string
			for key := range m.From(all[from]) {
				if keys = append(keys, key); key == all[stop] {
					break
				}
			}
			list(t, "From", keys, all[from:stop+1])
		}
	}
	told := 0
	m.From("")(func(string, int) bool { told++; return false })
	is(t, "how often From told", told, 1)
}

// What From gave may be gone over once more, and within itself.
func TestSo2FromAgain(t *testing.T) {
	m := of("a", "b", "c")
	seq := m.From("b")
	for range 2 {
		keys, _ := gone(seq)
		list(t, "From", keys, []string{"b", "c"})
	}
	var pairs []string
	for x := range seq {
		for y := range seq {
			pairs = append(pairs, x+y)
		}
	}
	list(t, "From within itself", pairs, []string{"bb", "bc", "cb", "cc"})
}

// What nobody touches is seen, once, rising, whatever is put and dropped meanwhile; and there is an end.
func TestSo2FromMeanwhile(t *testing.T) {
	const keys = 200
	name := func(n int) string { return strconv.Itoa(1000 + n) }
	for at := range 40 {
		m := sorted.New[int]()
		for i := range keys {
			m.Put(name(i), i)
		}
		var seen []string
		for key, v := range m.From("") {
			if n := len(seen); n > 0 && key <= seen[n-1] {
				t.Fatalf("%q stands behind %q", key, seen[n-1])
			}
			if seen = append(seen, key); len(seen) > 1000*keys {
				t.Fatal("there is no end")
			}
			m.Put(key+"a", -1)            // just behind
			m.Put("z"+key, -1)            // behind all
			m.Put("0"+key, -1)            // ahead of all
			m.Drop(name((v*7 + at) &^ 1)) // only those with even numbers are touched
		}
		for i := 1; i < keys; i += 2 {
			if !slices.Contains(seen, name(i)) {
				t.Errorf("%s was not seen", name(i))
			}
		}
	}
}

// All may be dropped meanwhile.
func TestSo2FromWhileAllIsDropped(t *testing.T) {
	m := of(edges()...)
	for range m.From("") {
		for _, key := range edges() {
			m.Drop(key)
		}
	}
	has(t, m, nil)
	m.Put("a", 1)
	has(t, m, map[string]int{"a": 1})
}

// A body that panics leaves the map as it is.
func TestSo2FromWithAPanic(t *testing.T) {
	m := of("a", "b", "c")
	func() {
		defer func() { recover() }()
		for range m.From("a") {
			panic("x")
		}
	}()
	m.Put("d", 3)
	m.Drop("a")
	has(t, m, map[string]int{"b": 1, "c": 2, "d": 3})
}

// notGiven tells a map that New did not give, and that answers all the same.
func notGiven[V any](t *testing.T, m *sorted.Map[V], v V) {
	t.Helper()
	for _, key := range edges() {
		for range 2 {
			is(t, "Put", m.Put(key, v), false)
		}
		_, ok := m.Get(key)
		is(t, "Get", ok, false)
		is(t, "Drop", m.Drop(key), false)
		for _, most := range []int{math.MinInt, -1, 0, 1, math.MaxInt} {
			list(t, "Keys", m.Keys(key, most), nil)
		}
		keys, _ := gone(m.From(key))
		list(t, "From", keys, nil)
	}
	is(t, "Len", m.Len(), 0)
	first, ok := m.First()
	is(t, "First", first, "")
	is(t, "whether there is one", ok, false)
}

func TestSo2MapsThatNewDidNotGive(t *testing.T) {
	notGiven[int](t, nil, 1)
	notGiven(t, &sorted.Map[int]{}, 1)
	notGiven(t, new(sorted.Map[[]string]), []string{"x"})
	var none *sorted.Map[int]
	if v, ok := none.Get("a"); v != 0 || ok {
		t.Errorf("Get answered %d, %t", v, ok)
	}
	m := of("a", "b")
	copied := *m
	notGiven(t, &copied, 1)
	if v, ok := copied.Get("b"); v != 0 || ok {
		t.Errorf("Get answered %d, %t", v, ok)
	}
	has(t, m, map[string]int{"a": 0, "b": 1})
	*m = sorted.Map[int]{}
	notGiven(t, m, 1)
}

// orders tells all orders of a list.
func orders(l []string, tell func([]string)) {
	if len(l) == 0 {
		tell(nil)
	}
	for i, key := range l {
		orders(slices.Delete(slices.Clone(l), i, i+1), func(rest []string) { tell(append([]string{key}, rest...)) })
	}
}

func TestSo3AllOrders(t *testing.T) {
	rising := []string{"", "\x00", "a", "a\x00", "ab", "b", "\xff"}
	orders(rising, func(l []string) {
		m := of(l...)
		list(t, fmt.Sprintf("Keys of %q", l), m.Keys("", 9), rising)
		for i, key := range l {
			is(t, "Put once more", m.Put(key, -i), true)
		}
		keys, values := gone(m.From(""))
		list(t, fmt.Sprintf("From of %q", l), keys, rising)
		for i, v := range values {
			is(t, "From's value", -v, slices.Index(l, rising[i]))
		}
		for i, key := range l {
			m.Drop(key)
			rest := slices.Sorted(slices.Values(l[i+1:]))
			list(t, fmt.Sprintf("Keys of %q", l[i+1:]), m.Keys("", 9), rest)
		}
	})
}

// chance are numbers that look like chance, the same in each run.
type chance uint64

// below is a number of 0 to n less 1.
func (c *chance) below(n int) int {
	*c = *c*6364136223846793005 + 1442695040888963407
	return int(uint64(*c) >> 33 % uint64(n))
}

// text is a text by chance, of few kinds, so that many are the same.
func (c *chance) text() string {
	l := make([]byte, c.below(4))
	for i := range l {
		l[i] = "\x00ab\xff"[c.below(4)]
	}
	return string(l)
}

// step does something by chance to a map, and to a plain one.
func step(t *testing.T, c *chance, m *sorted.Map[int], plain map[string]int) {
	t.Helper()
	key := c.text()
	v, there := plain[key]
	switch k := c.below(9); {
	case k < 4:
		next := c.below(5)
		is(t, "Put", m.Put(key, next), there)
		plain[key] = next
	case k < 7:
		is(t, "Drop", m.Drop(key), there)
		delete(plain, key)
	default:
		got, ok := m.Get(key)
		is(t, "Get", got, v)
		is(t, "whether it is there", ok, there)
	}
}

// Runs of calls by chance, beside a plain map.
func TestSo3Runs(t *testing.T) {
	for seed := range 200 {
		c := chance(seed)
		m, plain := sorted.New[int](), map[string]int{}
		for range 300 {
			step(t, &c, m, plain)
			if c.below(5) == 0 {
				has(t, m, plain)
				from, most := c.text(), c.below(9)
				want := slices.Sorted(maps.Keys(plain))
				want = slices.DeleteFunc(want, func(key string) bool { return key < from })
				list(t, "Keys", m.Keys(from, most), want[:min(most, len(want))])
			}
		}
	}
}

// Many keys, in orders that are hard on trees and on lists.
func TestSo3Many(t *testing.T) {
	const keys = 100000
	name := func(n int) string { return strconv.Itoa(keys + n) }
	for _, order := range []func(i int) int{
		func(i int) int { return i },
		func(i int) int { return keys - 1 - i },
		func(i int) int { return i * 7919 % keys },
	} {
		m := sorted.New[int]()
		for i := range keys {
			is(t, "Put", m.Put(name(order(i)), order(i)), false)
		}
		is(t, "Len", m.Len(), keys)
		next := 0
		for key, v := range m.From("") {
			if key != name(next) || v != next {
				t.Fatalf("%q and %d at the place %d", key, v, next)
			}
			next++
		}
		is(t, "how many From went over", next, keys)
		for i := range keys - 1 {
			is(t, "Drop", m.Drop(name(order(i))), true)
		}
		list(t, "Keys", m.Keys("", 9), []string{name(order(keys - 1))})
	}
}
