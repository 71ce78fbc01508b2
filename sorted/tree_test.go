package sorted

import (
	"strconv"
	"testing"
)

const keys = 300

// check tells a tree one of whose sides is too heavy, or that is counted wrongly: how many keys it has.
func check(t *testing.T, n *node[int]) int {
	t.Helper()
	if n == nil {
		return 0
	}
	a, b := check(t, n.sides[ahead]), check(t, n.sides[behind])
	if a+1 > 3*(b+1) || b+1 > 3*(a+1) {
		t.Fatalf("%d keys on one side, and %d on the other", a, b)
	}
	if n.size != a+1+b {
		t.Fatalf("size is %d, not %d", n.size, a+1+b)
	}
	return n.size
}

// outward goes from the midst to both ends, by turns.
func outward(i int) int {
	if i%2 == 0 {
		return keys/2 + i/2
	}
	return keys/2 - 1 - i/2
}

// orders are some in which so many keys come, or go.
func orders() map[string]func(i int) int {
	return map[string]func(i int) int{
		"rising":  func(i int) int { return i },
		"falling": func(i int) int { return keys - 1 - i },
		"mixed":   func(i int) int { return i * 7919 % keys },
		"outward": outward,
		"inward":  func(i int) int { return outward(keys - 1 - i) },
	}
}

// In whatever order keys come and go, no side is ever too heavy: a tree is searched in few steps.
func TestTreesAreBalanced(t *testing.T) {
	name := func(n int) string { return strconv.Itoa(1000 + n) }
	for in, put := range orders() {
		for out, drop := range orders() {
			m := New[int]()
			for i := range keys {
				m.Put(name(put(i)), i)
				check(t, m.tree)
			}
			for i := range keys {
				if i%4 == 3 {
					m.Put(name(put(i/2)), i)
					check(t, m.tree)
				}
				m.Drop(name(drop(i)))
				if n := check(t, m.tree); n != m.Len() {
					t.Fatalf("put %s, drop %s: %d keys, Len is %d", in, out, n, m.Len())
				}
			}
		}
	}
}
