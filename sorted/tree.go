package sorted

import "strings"

// The sides of a node.
const (
	ahead  = 0
	behind = 1
)

// With these two, turns at one node mend what one key more or less does to a tree: Hirai and Yamamoto, Balancing weight-balanced trees.
const (
	mostHeavier = 3 // times that one side may weigh what the other one does
	mostInner   = 2 // times that the inner part of a side may weigh, for one turn to mend it
)

// node is a key and its value above those that stand ahead, and those that stand behind. It never changes: whoever goes over a tree goes over it as it was, and comes to an end, whatever is put meanwhile.
type node[V any] struct {
	key   string
	value V
	sides [2]*node[V]
	size  int // how many keys there are, with those of both sides
}

// count is how many keys a tree has.
func (n *node[V]) count() int {
	if n == nil {
		return 0
	}
	return n.size
}

// weight is what a tree counts for beside another one; of none it is not 0, so that it has its times too.
func (n *node[V]) weight() int {
	return n.count() + 1
}

// side is the one on which a key is, or would be, that is not the node's own.
func (n *node[V]) side(key string) int {
	if key < n.key {
		return ahead
	}
	return behind
}

// with is the node with another tree on a side.
func (n *node[V]) with(side int, tree *node[V]) *node[V] {
	made := *n
	made.sides[side] = tree
	made.size = made.sides[ahead].count() + 1 + made.sides[behind].count()
	return &made
}

// heavier is the side that weighs more.
func (n *node[V]) heavier() int {
	if n.sides[ahead].weight() > n.sides[behind].weight() {
		return ahead
	}
	return behind
}

// turned is the tree with the uppermost node of a side on top.
func (n *node[V]) turned(side int) *node[V] {
	top := n.sides[side]
	return top.with(1-side, n.with(side, top.sides[1-side]))
}

// balanced is the tree with no side too heavy, where there was none but for one key that came, or went, on a side.
func (n *node[V]) balanced() *node[V] {
	side := n.heavier()
	top := n.sides[side]
	if top.weight() <= mostHeavier*n.sides[1-side].weight() {
		return n
	}
	if top.sides[1-side].weight() >= mostInner*top.sides[side].weight() {
		n = n.with(side, top.turned(1-side))
	}
	return n.turned(side)
}

// find is the node with a key; nil: there is none.
func (n *node[V]) find(key string) *node[V] {
	for n != nil && n.key != key {
		n = n.sides[n.side(key)]
	}
	return n
}

// put is the tree with a value of a key.
func (n *node[V]) put(key string, v V) *node[V] {
	if n == nil {
		return &node[V]{key: strings.Clone(key), value: v, size: 1}
	}
	if n.key == key {
		made := *n
		made.value = v
		return &made
	}
	side := n.side(key)
	return n.with(side, n.sides[side].put(key, v)).balanced()
}

// drop is the tree without a key that it has.
func (n *node[V]) drop(key string) *node[V] {
	if n.key == key {
		return n.closed()
	}
	side := n.side(key)
	return n.with(side, n.sides[side].drop(key)).balanced()
}

// closed is the tree without its uppermost key.
func (n *node[V]) closed() *node[V] {
	side := n.heavier()
	tree := n.sides[side]
	if tree == nil {
		return nil
	}
	next := tree.last(1 - side)
	// Of the heavier side one less does not let the other one be too heavy.
	return next.with(side, tree.drop(next.key)).with(1-side, n.sides[1-side])
}

// last is the node of a tree that stands farthest to a side.
func (n *node[V]) last(side int) *node[V] {
	for n.sides[side] != nil {
		n = n.sides[side]
	}
	return n
}

// each tells keys and values, rising, from a key on, as long as it is let go on: whether it was.
func (n *node[V]) each(from string, tell func(string, V) bool) bool {
	if n == nil {
		return true
	}
	if n.key < from {
		return n.sides[behind].each(from, tell)
	}
	return n.sides[ahead].each(from, tell) && tell(n.key, n.value) && n.sides[behind].each(from, tell)
}
