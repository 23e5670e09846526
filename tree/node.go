package tree

import "slices"

// leaf makes a leaf, with a list of its own.
func leaf[T any](items ...T) *Node[T] {
	return &Node[T]{Items: slices.Clone(items), N: len(items)}
}

// above makes the node above others, with a list of its own.
func above[T any](kids ...*Node[T]) *Node[T] {
	n := &Node[T]{Kids: slices.Clone(kids)}
	for _, kid := range kids {
		n.N += kid.N
	}
	return n
}

// pack puts things, or kids, into as few nodes as hold them, about as many into each:
// so no node of several has fewer than Least.
func pack[T, E any](node func(l ...E) *Node[T], l ...E) []*Node[T] {
	few := (len(l) + Most - 1) / Most
	nodes := make([]*Node[T], few)
	for k := range nodes {
		nodes[k] = node(l[k*len(l)/few : (k+1)*len(l)/few]...)
	}
	return nodes
}

// replaced tells a list of its own, with others in the place of those from i to ahead of j.
func replaced[E any](l []E, i, j int, others ...E) []E {
	return slices.Concat(l[:i], others, l[j:])
}

// isLeaf tells whether a node has no kids.
func (n *Node[T]) isLeaf() bool {
	return len(n.Kids) == 0
}

// low tells whether a node has too little for any but the root.
func (n *Node[T]) low() bool {
	return len(n.Kids)+len(n.Items) < Least
}

// kid tells below which kid the i-th thing lies, and which one it is there; what is behind all lies at the end of the last one.
func (n *Node[T]) kid(i int) (int, int) {
	k := 0
	for k < len(n.Kids)-1 && i >= n.Kids[k].N {
		i -= n.Kids[k].N
		k++
	}
	return k, i
}

// set tells the node with another i-th thing.
func (n *Node[T]) set(i int, x T) *Node[T] {
	if n.isLeaf() {
		return leaf(replaced(n.Items, i, i+1, x)...)
	}
	k, i := n.kid(i)
	return above(replaced(n.Kids, k, k+1, n.Kids[k].set(i, x))...)
}

// insert tells the node, or the two, with one more thing ahead of the i-th one.
func (n *Node[T]) insert(i int, x T) []*Node[T] {
	if n.isLeaf() {
		return pack(leaf[T], replaced(n.Items, i, i, x)...)
	}
	k, i := n.kid(i)
	return pack(above[T], replaced(n.Kids, k, k+1, n.Kids[k].insert(i, x)...)...)
}

// without tells the node without its i-th thing; it may be low.
func (n *Node[T]) without(i int) *Node[T] {
	if n.isLeaf() {
		return leaf(replaced(n.Items, i, i+1)...)
	}
	k, i := n.kid(i)
	kids := replaced(n.Kids, k, k+1, n.Kids[k].without(i))
	if kids[k].low() {
		left := max(k-1, 0)
		kids = replaced(kids, left, left+2, join(kids[left], kids[left+1], 0)...)
	}
	return above(kids...)
}

// join tells the node, or the two, with what lies below two nodes, of which the first one is so much higher (below 0: lower).
// Two are never low, and one is so only where it is to be a root.
func join[T any](a, b *Node[T], higher int) []*Node[T] {
	switch {
	case higher > 0:
		last := len(a.Kids) - 1
		return pack(above[T], slices.Concat(a.Kids[:last], join(a.Kids[last], b, higher-1))...)
	case higher < 0:
		return pack(above[T], slices.Concat(join(a, b.Kids[0], higher+1), b.Kids[1:])...)
	case a.isLeaf():
		return pack(leaf[T], slices.Concat(a.Items, b.Items)...)
	}
	return pack(above[T], slices.Concat(a.Kids, b.Kids)...)
}
