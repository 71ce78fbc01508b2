package bag_test

import (
	"fmt"
	"math"
	"slices"
	"strings"
	"testing"

	"sorrel/api"
	"sorrel/bag"
)

// The limits, as the chapters say them.
const (
	mostNodes   = 6
	mostClients = 8
	mostWait    = 1024
	mostText    = 1 << 18
)

// numbers are places, and what lies beside them.
var numbers = []int{
	math.MinInt, -100, -2, -1, 0, 1, 2, 3, 4, 5, 6, 7, 8, 9, 50, 99,
	100, 101, 102, 103, 104, 105, 106, 107, 108, 109, 200, 1 << 32, math.MaxInt,
}

// letter is one from the directory.
func letter(to int, text string) api.Letter {
	return api.Letter{From: -1, To: to, Text: text}
}

// noise are numbers below n, the same each time.
func noise(seed uint32) func(n int) int {
	return func(n int) int {
		seed = seed*1664525 + 1013904223
		return int(seed>>8) % n
	}
}

// made is a bag that must be given.
func made(t *testing.T, nodes, clients int) *bag.Bag {
	t.Helper()
	b, err := bag.New(nodes, clients)
	if b == nil || err != api.OK {
		t.Fatalf("New(%d, %d) = %v, %d", nodes, clients, b, err)
	}
	return b
}

// fill lets so many letters wait at a place, with their numbers as texts.
func fill(t *testing.T, b *bag.Bag, to, n int) {
	t.Helper()
	for i := range n {
		if err := b.Put(letter(to, fmt.Sprint(i))); err != api.OK {
			t.Fatalf("Put of the letter %d to %d = %d", i, to, err)
		}
	}
}

// plain is what the chapter says of a bag, word by word: all letters in one list, as they were put.
type plain struct {
	nodes, clients int
	all            []api.Letter
}

// place tells whether a number is a place.
func (p *plain) place(n int) bool {
	return n == -1 || n >= 0 && n < p.nodes || n >= 100 && n < 100+p.clients
}

// at are the places in the list of those that wait at a place.
func (p *plain) at(to int) []int {
	var l []int
	for i, x := range p.all {
		if x.To == to {
			l = append(l, i)
		}
	}
	return l
}

func (p *plain) put(l api.Letter) api.Errno {
	if !p.place(l.From) || !p.place(l.To) || len(l.Text) > mostText {
		return api.ErrArg
	}
	if len(p.at(l.To)) >= mostWait {
		return api.ErrFull
	}
	p.all = append(p.all, l)
	return api.OK
}

func (p *plain) take(to, at int) (api.Letter, api.Errno) {
	if !p.place(to) {
		return api.Letter{}, api.ErrArg
	}
	there := p.at(to)
	if at < 0 || at >= len(there) {
		return api.Letter{}, api.ErrNone
	}
	l := p.all[there[at]]
	p.all = slices.Delete(slices.Clone(p.all), there[at], there[at]+1)
	return l, api.OK
}

func (p *plain) twice(to, at int) api.Errno {
	if !p.place(to) {
		return api.ErrArg
	}
	there := p.at(to)
	if at < 0 || at >= len(there) {
		return api.ErrNone
	}
	if len(there) >= mostWait {
		return api.ErrFull
	}
	p.all = append(p.all, p.all[there[at]])
	return api.OK
}

func (p *plain) clear(to int) api.Errno {
	if !p.place(to) {
		return api.ErrArg
	}
	p.all = slices.DeleteFunc(slices.Clone(p.all), func(l api.Letter) bool { return l.To == to })
	return api.OK
}

// waiting are the letters of a list that wait at a place.
func waiting(l []api.Letter, to int) []api.Letter {
	return slices.DeleteFunc(slices.Clone(l), func(x api.Letter) bool { return x.To != to })
}

// same tells whether as many wait in a bag as in a plain one, at all numbers.
func same(b *bag.Bag, p *plain) bool {
	for _, to := range numbers {
		if b.Waits(to) != len(p.at(to)) {
			return false
		}
	}
	return true
}

// empty takes all letters out of a bag, place by place, each time the first one.
func empty(b *bag.Bag) []api.Letter {
	var all []api.Letter
	for _, to := range b.Places() {
		for b.Waits(to) > 0 {
			l, err := b.Take(to, 0)
			if err != api.OK {
				return nil
			}
			all = append(all, l)
		}
	}
	return all
}

// holds tells a bag that has not just the letters of a plain one; it is emptied.
func holds(t *testing.T, what string, b *bag.Bag, p *plain) {
	t.Helper()
	if !same(b, p) {
		t.Errorf("%s: not as many wait as should", what)
	}
	var want []api.Letter
	for _, to := range b.Places() {
		want = append(want, waiting(p.all, to)...)
	}
	if got := empty(b); !slices.Equal(got, want) {
		t.Errorf("%s: %d letters wait, not %d, or others", what, len(got), len(want))
	}
	if len(want) != len(p.all) {
		t.Errorf("%s: some letters wait nowhere", what)
	}
}

func TestBa1NewOfNumbers(t *testing.T) {
	for _, nodes := range numbers {
		for _, clients := range numbers {
			b, err := bag.New(nodes, clients)
			if nodes < 1 || nodes > mostNodes || clients < 1 || clients > mostClients {
				if b != nil || err != api.ErrArg {
					t.Errorf("New(%d, %d) = %v, %d; want none, ErrArg", nodes, clients, b, err)
				}
				continue
			}
			if b == nil || err != api.OK {
				t.Errorf("New(%d, %d) = %v, %d; want a bag", nodes, clients, b, err)
			}
		}
	}
	if mostNodes != api.MaxNodes || mostClients != api.MaxClients || mostWait != api.MaxBag || mostText != api.MaxFrame {
		t.Error("the limits are not as the chapters say them")
	}
}

func TestBa1NewIsWithoutLetters(t *testing.T) {
	for nodes := 1; nodes <= mostNodes; nodes++ {
		for clients := 1; clients <= mostClients; clients++ {
			b := made(t, nodes, clients)
			if !same(b, &plain{nodes: nodes, clients: clients}) {
				t.Errorf("New(%d, %d) has letters", nodes, clients)
			}
			for _, to := range b.Places() {
				if l, err := b.Take(to, 0); l != (api.Letter{}) || err != api.ErrNone {
					t.Errorf("New(%d, %d) has %v at %d, %d", nodes, clients, l, to, err)
				}
			}
		}
	}
}

func TestBa1Places(t *testing.T) {
	for nodes := 1; nodes <= mostNodes; nodes++ {
		for clients := 1; clients <= mostClients; clients++ {
			want := []int{-1}
			for i := range nodes {
				want = append(want, i)
			}
			for i := range clients {
				want = append(want, 100+i)
			}
			b := made(t, nodes, clients)
			if got := b.Places(); !slices.Equal(got, want) {
				t.Errorf("Places of %d nodes and %d clients are %v, not %v", nodes, clients, got, want)
			}
			fill(t, b, 0, 2)
			fill(t, b, 100, 1)
			b.Clear(0)
			b.Take(100, 0)
			if got := b.Places(); !slices.Equal(got, want) {
				t.Errorf("Places of %d nodes and %d clients are %v, not %v, behind calls", nodes, clients, got, want)
			}
		}
	}
}

func TestBa1CallsOfAllPlaces(t *testing.T) {
	for nodes := 1; nodes <= mostNodes; nodes++ {
		for clients := 1; clients <= mostClients; clients++ {
			b, p := made(t, nodes, clients), &plain{nodes: nodes, clients: clients}
			for _, from := range numbers {
				for _, to := range numbers {
					l := api.Letter{From: from, To: to, Text: fmt.Sprint(from, to)}
					if got, want := b.Put(l), p.put(l); got != want {
						t.Errorf("%d nodes, %d clients: Put(%v) = %d; want %d", nodes, clients, l, got, want)
					}
				}
			}
			for i, to := range numbers {
				if got, want := b.Twice(to, i%3), p.twice(to, i%3); got != want {
					t.Errorf("%d nodes, %d clients: Twice(%d, %d) = %d; want %d", nodes, clients, to, i%3, got, want)
				}
				l, err := b.Take(to, i%4)
				if want, e := p.take(to, i%4); l != want || err != e {
					t.Errorf("%d nodes, %d clients: Take(%d, %d) = %v, %d; want %v, %d", nodes, clients, to, i%4, l, err, want, e)
				}
			}
			if !same(b, p) {
				t.Errorf("%d nodes, %d clients: not as many wait as should", nodes, clients)
			}
			for i, to := range numbers {
				if i%3 > 0 && p.place(to) {
					continue
				}
				if got, want := b.Clear(to), p.clear(to); got != want {
					t.Errorf("%d nodes, %d clients: Clear(%d) = %d; want %d", nodes, clients, to, got, want)
				}
			}
			holds(t, fmt.Sprint(nodes, " nodes, ", clients, " clients"), b, p)
		}
	}
}

func TestBa1PutOfTexts(t *testing.T) {
	b, p := made(t, 1, 1), &plain{nodes: 1, clients: 1}
	long := strings.Repeat("x", mostText)
	for _, text := range []string{"", "a", "\x00", "\xff\n", long[1:], long, long + "x", long + long} {
		for _, l := range []api.Letter{letter(0, text), {From: 0, To: 1, Text: text}, {From: 1, To: 0, Text: text}} {
			if got, want := b.Put(l), p.put(l); got != want {
				t.Errorf("Put of %d bytes from %d to %d = %d; want %d", len(text), l.From, l.To, got, want)
			}
		}
	}
	holds(t, "texts", b, p)
}

func TestBa1PutIsFull(t *testing.T) {
	b := made(t, 2, 2)
	long := strings.Repeat("x", mostText+1)
	for _, to := range b.Places() {
		fill(t, b, to, mostWait)
		for _, c := range []struct {
			l    api.Letter
			want api.Errno
		}{
			{letter(to, "over"), api.ErrFull},
			{api.Letter{From: to, To: to}, api.ErrFull},
			{api.Letter{From: 2, To: to}, api.ErrArg},
			{letter(to, long), api.ErrArg},
		} {
			if err := b.Put(c.l); err != c.want {
				t.Errorf("Put from %d to %d, %d bytes, at a full place = %d; want %d", c.l.From, to, len(c.l.Text), err, c.want)
			}
		}
		if n := b.Waits(to); n != mostWait {
			t.Errorf("%d wait at the full place %d", n, to)
		}
		if l, err := b.Take(to, mostWait-1); l != letter(to, "1023") || err != api.OK {
			t.Errorf("Take of the last one at %d = %v, %d", to, l, err)
		}
		if err := b.Put(letter(to, "over")); err != api.OK {
			t.Errorf("Put to %d, where one was taken = %d", to, err)
		}
		if err := b.Put(letter(to, "over")); err != api.ErrFull {
			t.Errorf("Put to %d, which is full again = %d", to, err)
		}
		if l, err := b.Take(to, mostWait-1); l != letter(to, "over") || err != api.OK {
			t.Errorf("Take of the last one at %d = %v, %d", to, l, err)
		}
		if err := b.Put(api.Letter{From: 0, To: to}); err != api.OK {
			t.Errorf("Put to %d, where one was taken = %d", to, err)
		}
	}
	for _, to := range b.Places() {
		if n := b.Waits(to); n != mostWait {
			t.Errorf("%d wait at the full place %d", n, to)
		}
	}
}

func TestBa1TakeAtEachPlace(t *testing.T) {
	for n := range 7 {
		for _, at := range []int{math.MinInt, -n - 1, -n, -2, -1, 0, 1, 2, 3, 4, 5, 6, 7, 1 << 32, math.MaxInt} {
			b, p := made(t, 1, 1), &plain{nodes: 1, clients: 1}
			for i := range n {
				l := api.Letter{From: []int{-1, 0, 100}[i%3], To: 100, Text: fmt.Sprint(i)}
				if b.Put(l) != p.put(l) {
					t.Fatal("Put", l)
				}
			}
			l, err := b.Take(100, at)
			if want, e := p.take(100, at); l != want || err != e {
				t.Errorf("Take(100, %d) of %d = %v, %d; want %v, %d", at, n, l, err, want, e)
			}
			holds(t, fmt.Sprintf("behind Take(100, %d) of %d", at, n), b, p)
		}
	}
}

func TestBa1TwiceAtEachPlace(t *testing.T) {
	for n := range 7 {
		for _, at := range []int{math.MinInt, -n - 1, -n, -2, -1, 0, 1, 2, 3, 4, 5, 6, 7, 1 << 32, math.MaxInt} {
			b, p := made(t, 1, 1), &plain{nodes: 1, clients: 1}
			for i := range n {
				l := api.Letter{From: []int{-1, 0, 100}[i%3], To: -1, Text: fmt.Sprint(i)}
				if b.Put(l) != p.put(l) {
					t.Fatal("Put", l)
				}
			}
			if got, want := b.Twice(-1, at), p.twice(-1, at); got != want {
				t.Errorf("Twice(-1, %d) of %d = %d; want %d", at, n, got, want)
			}
			holds(t, fmt.Sprintf("behind Twice(-1, %d) of %d", at, n), b, p)
		}
	}
}

func TestBa1TwiceIsFull(t *testing.T) {
	b := made(t, 2, 2)
	fill(t, b, 101, mostWait-1)
	if err := b.Twice(101, 7); err != api.OK {
		t.Errorf("Twice at the last free place = %d", err)
	}
	for _, c := range []struct {
		to, at int
		want   api.Errno
	}{
		{101, 0, api.ErrFull},
		{101, mostWait - 1, api.ErrFull},
		{101, mostWait, api.ErrNone},
		{101, -1, api.ErrNone},
		{102, 0, api.ErrArg},
		{102, mostWait, api.ErrArg},
		{100, 0, api.ErrNone},
	} {
		if err := b.Twice(c.to, c.at); err != c.want {
			t.Errorf("Twice(%d, %d) = %d; want %d", c.to, c.at, err, c.want)
		}
	}
	if n := b.Waits(101); n != mostWait {
		t.Errorf("%d wait at a full place", n)
	}
	if l, err := b.Take(101, mostWait-1); l != letter(101, "7") || err != api.OK {
		t.Errorf("the last one is %v, %d, not what is there twice", l, err)
	}
	if l, err := b.Take(101, 7); l != letter(101, "7") || err != api.OK {
		t.Errorf("what is there twice is %v, %d, at its first place", l, err)
	}
	if err := b.Twice(101, 0); err != api.OK {
		t.Errorf("Twice, where two were taken = %d", err)
	}
}

func TestBa1ClearIsOfOnePlace(t *testing.T) {
	for _, to := range []int{-1, 0, 1, 100, 101} {
		b, p := made(t, 2, 2), &plain{nodes: 2, clients: 2}
		for i := range 15 {
			l := api.Letter{From: b.Places()[i/5], To: b.Places()[i%5], Text: fmt.Sprint(i)}
			if b.Put(l) != p.put(l) {
				t.Fatal("Put", l)
			}
		}
		for range 2 {
			if got, want := b.Clear(to), p.clear(to); got != want {
				t.Errorf("Clear(%d) = %d; want %d", to, got, want)
			}
		}
		if l, err := b.Take(to, 0); l != (api.Letter{}) || err != api.ErrNone {
			t.Errorf("behind Clear(%d), %v waits, %d", to, l, err)
		}
		l := letter(to, "anew")
		if b.Put(l) != p.put(l) {
			t.Errorf("Put behind Clear(%d)", to)
		}
		holds(t, fmt.Sprintf("behind Clear(%d)", to), b, p)
	}
}

func TestBa1ClearOfAFullPlace(t *testing.T) {
	b := made(t, 1, 1)
	fill(t, b, 0, mostWait)
	if err := b.Clear(0); err != api.OK || b.Waits(0) != 0 {
		t.Errorf("Clear(0) = %d, and %d wait", err, b.Waits(0))
	}
	fill(t, b, 0, mostWait)
}

func TestBa1AskedIsNotChanged(t *testing.T) {
	b := made(t, 2, 1)
	fill(t, b, 1, 3)
	for range 3 {
		if n := b.Waits(1); n != 3 {
			t.Errorf("%d wait at 1", n)
		}
		for _, to := range []int{-2, 2, 99, 101, math.MinInt, math.MaxInt} {
			if n := b.Waits(to); n != 0 {
				t.Errorf("%d wait at %d, which is no place", n, to)
			}
		}
	}
	if got := b.Places(); !slices.Equal(got, []int{-1, 0, 1, 100}) {
		t.Errorf("Places are %v, behind asking of others", got)
	}
}

func TestBa2Example(t *testing.T) {
	b := made(t, 1, 1)
	for _, text := range []string{"a", "b"} {
		if err := b.Put(letter(0, text)); err != api.OK {
			t.Error(err)
		}
	}
	if l, err := b.Take(0, 1); l != letter(0, "b") || err != api.OK {
		t.Errorf("Take(0, 1) = %v, %d", l, err)
	}
	if l, err := b.Take(0, 0); l != letter(0, "a") || err != api.OK {
		t.Errorf("Take(0, 0) = %v, %d", l, err)
	}
	if l, err := b.Take(0, 0); l != (api.Letter{}) || err != api.ErrNone {
		t.Errorf("Take(0, 0) of nothing = %v, %d", l, err)
	}
}

// a call, of a bag and of a plain one: whether both answered the same.
type call struct {
	name string
	do   func(b *bag.Bag, p *plain) bool
}

// puts is a call of Put, whose letter's text tells how many calls were ahead of it.
func puts(from, to int) call {
	return call{fmt.Sprintf("Put %d to %d", from, to), func(b *bag.Bag, p *plain) bool {
		l := api.Letter{From: from, To: to, Text: fmt.Sprint(len(p.all))}
		return b.Put(l) == p.put(l)
	}}
}

// takes is a call of Take.
func takes(to, at int) call {
	return call{fmt.Sprintf("Take %d %d", to, at), func(b *bag.Bag, p *plain) bool {
		got, err := b.Take(to, at)
		want, e := p.take(to, at)
		return got == want && err == e
	}}
}

// doubles is a call of Twice.
func doubles(to, at int) call {
	return call{fmt.Sprintf("Twice %d %d", to, at), func(b *bag.Bag, p *plain) bool {
		return b.Twice(to, at) == p.twice(to, at)
	}}
}

// clears is a call of Clear.
func clears(to int) call {
	return call{fmt.Sprintf("Clear %d", to), func(b *bag.Bag, p *plain) bool {
		return b.Clear(to) == p.clear(to)
	}}
}

func TestBa2AllShortRuns(t *testing.T) {
	calls := []call{
		puts(100, 0), puts(0, 100), puts(0, 1), takes(0, 0), takes(0, 1), takes(100, 0), takes(100, -1),
		doubles(0, 0), doubles(0, 1), doubles(100, 0), clears(0), clears(101),
	}
	var run func(l []call)
	run = func(l []call) {
		b, p := made(t, 1, 1), &plain{nodes: 1, clients: 1}
		var names []string
		for _, c := range l {
			names = append(names, c.name)
			if !c.do(b, p) {
				t.Fatalf("%q: the last one is otherwise than said", names)
			}
		}
		holds(t, strings.Join(names, ", "), b, p)
		if len(l) == 4 {
			return
		}
		for _, c := range calls {
			run(append(slices.Clone(l), c))
		}
	}
	run(nil)
}

func TestBa2RunsBesideAPlainOne(t *testing.T) {
	next := noise(15)
	for run := range 100 {
		nodes, clients := 1+next(mostNodes), 1+next(mostClients)
		b, p := made(t, nodes, clients), &plain{nodes: nodes, clients: clients}
		places := b.Places()
		some := func() int {
			if next(12) == 0 {
				return numbers[next(len(numbers))]
			}
			return places[next(min(len(places), 3))]
		}
		for i := range 400 {
			var c call
			switch k := next(20); {
			case k < 8:
				c = puts(some(), some())
			case k < 14:
				c = takes(some(), next(9)-1)
			case k < 19:
				c = doubles(some(), next(9)-1)
			case next(4) == 0:
				c = clears(some())
			default:
				continue
			}
			if !c.do(b, p) || !same(b, p) {
				t.Fatalf("run %d, call %d: %s is otherwise than said", run, i, c.name)
			}
		}
		holds(t, fmt.Sprint("run ", run), b, p)
	}
}

func TestBa2WhatIsPutIsTakenOnce(t *testing.T) {
	next := noise(16)
	b := made(t, 2, 2)
	places := b.Places()
	// How often each letter is there yet to be taken.
	due := map[string]int{}
	for i := range 3000 {
		l := api.Letter{From: places[next(5)], To: places[next(5)], Text: fmt.Sprint("letter ", i)}
		if err := b.Put(l); err != api.OK {
			t.Fatal(l, err)
		}
		due[l.Text]++
		if next(3) == 0 {
			if err := b.Twice(l.To, b.Waits(l.To)-1); err != api.OK {
				t.Fatal(l, err)
			}
			due[l.Text]++
		}
		for range next(3) {
			to := places[next(5)]
			if b.Waits(to) == 0 {
				continue
			}
			l, err := b.Take(to, next(b.Waits(to)))
			if err != api.OK || l.To != to {
				t.Fatalf("Take at %d = %v, %d", to, l, err)
			}
			due[l.Text]--
		}
	}
	for _, l := range empty(b) {
		due[l.Text]--
	}
	for text, n := range due {
		if n != 0 {
			t.Errorf("%q was taken %d times too few", text, n)
		}
	}
}

func TestBa2BagsStandApart(t *testing.T) {
	a, b := made(t, 1, 1), made(t, 1, 1)
	fill(t, a, 0, 3)
	fill(t, b, 0, 2)
	a.Take(0, 0)
	b.Twice(0, 0)
	b.Twice(0, 0)
	if a.Waits(0) != 2 || b.Waits(0) != 4 {
		t.Errorf("%d and %d wait", a.Waits(0), b.Waits(0))
	}
	a.Clear(0)
	if a.Waits(0) != 0 || b.Waits(0) != 4 {
		t.Errorf("%d and %d wait, behind a Clear of the first one", a.Waits(0), b.Waits(0))
	}
}

func TestR1BagsThatNewDidNotGive(t *testing.T) {
	given := made(t, 2, 2)
	fill(t, given, 0, 2)
	copied := *given
	for name, b := range map[string]*bag.Bag{"nil": nil, "zero": {}, "a copy": &copied} {
		for _, to := range []int{-1, 0, 100, 7} {
			if err := b.Put(api.Letter{From: 0, To: to}); err != api.ErrArg {
				t.Errorf("%s: Put to %d = %d", name, to, err)
			}
			if l, err := b.Take(to, 0); l != (api.Letter{}) || err != api.ErrArg {
				t.Errorf("%s: Take(%d, 0) = %v, %d", name, to, l, err)
			}
			if err := b.Twice(to, 0); err != api.ErrArg {
				t.Errorf("%s: Twice(%d, 0) = %d", name, to, err)
			}
			if err := b.Clear(to); err != api.ErrArg {
				t.Errorf("%s: Clear(%d) = %d", name, to, err)
			}
			if n := b.Waits(to); n != 0 {
				t.Errorf("%s: Waits(%d) = %d", name, to, n)
			}
		}
		if l := b.Places(); len(l) != 0 {
			t.Errorf("%s: Places are %v", name, l)
		}
	}
	if n := given.Waits(0); n != 2 {
		t.Errorf("%d wait in the bag of which there is a copy", n)
	}
}

func TestR3PlacesAreNewMemory(t *testing.T) {
	b := made(t, 2, 1)
	l := b.Places()
	for i := range l {
		l[i] = 7
	}
	if got := append(l, 7)[:0]; len(got) > 0 || !slices.Equal(b.Places(), []int{-1, 0, 1, 100}) {
		t.Errorf("Places are %v, behind a change of an answer", b.Places())
	}
	if err := b.Put(letter(1, "a")); err != api.OK || b.Waits(1) != 1 || b.Waits(7) != 0 {
		t.Error("a place is another one, behind a change of an answer")
	}
}
