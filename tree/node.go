package tree

import (
	"slices"
	"strings"
)

// How many keys a node has; the root may have as few as one.
const (
	leastKeys = 3
	mostKeys  = 7
)

// item is a key with its value.
type item[V any] struct {
	key   string
	value V
}

// compare puts an item's key in order with another one.
func (x item[V]) compare(key string) int { return strings.Compare(x.key, key) }

// tell is an item as a tree answers it; there is none, if it is nil.
func (x *item[V]) tell() (string, V, bool) {
	if x == nil {
		var none V
		return "", none, false
	}
	return x.key, x.value, true
}

// node is items in order. It has no children, or one more than items: what stands below the child i lies behind the item i-1 and ahead of the item i.
type node[V any] struct {
	items    []item[V]
	children []*node[V]
}

// find is where a key stands, and true; else where it would, which is the child that it lies below too.
func (n *node[V]) find(key string) (int, bool) {
	return slices.BinarySearchFunc(n.items, key, item[V].compare)
}

// child is one of the children, nil if there are none.
func (n *node[V]) child(i int) *node[V] {
	if len(n.children) == 0 {
		return nil
	}
	return n.children[i]
}

// hasTooMany tells whether a node must be split.
func (n *node[V]) hasTooMany() bool { return len(n.items) > mostKeys }

// hasTooFew tells whether a node, if it is not the root, must be filled up.
func (n *node[V]) hasTooFew() bool { return len(n.items) < leastKeys }

// canSpare tells whether a node has enough, if one key is taken off.
func (n *node[V]) canSpare() bool { return len(n.items) > leastKeys }

// put lays an item below a node, which may have one too many then: what the key had ahead, and whether it was there.
func (n *node[V]) put(x item[V]) (V, bool) {
	i, there := n.find(x.key)
	if there {
		had := n.items[i].value
		n.items[i].value = x.value
		return had, true
	}
	below := n.child(i)
	if below == nil {
		n.items = slices.Insert(n.items, i, x)
		var none V
		return none, false
	}
	had, there := below.put(x)
	if below.hasTooMany() {
		n.splitChild(i)
	}
	return had, there
}

// splitChild makes two nodes of a child, with its middle item between them.
func (n *node[V]) splitChild(i int) {
	left := n.children[i]
	middle := len(left.items) / 2
	right := &node[V]{items: slices.Clone(left.items[middle+1:])}
	if len(left.children) > 0 {
		right.children = slices.Clone(left.children[middle+1:])
		left.children = slices.Delete(left.children, middle+1, len(left.children))
	}
	n.items = slices.Insert(n.items, i, left.items[middle])
	n.children = slices.Insert(n.children, i+1, right)
	left.items = slices.Delete(left.items, middle, len(left.items))
}

// drop takes a key out below a node, which may have one too few then: what it had, and whether it was there.
func (n *node[V]) drop(key string) (V, bool) {
	i, there := n.find(key)
	below := n.child(i)
	switch {
	case below != nil && there:
		// The key just ahead of it takes its place, so that all others stay between the keys about them.
		had := n.items[i].value
		n.items[i] = below.takeLast()
		n.fillChild(i)
		return had, true
	case below != nil:
		had, there := below.drop(key)
		n.fillChild(i)
		return had, there
	case there:
		return takeAt(&n.items, i).value, true
	}
	var none V
	return none, false
}

// takeLast takes the greatest item below a node out, which may have one too few then.
func (n *node[V]) takeLast() item[V] {
	last := len(n.items) - 1
	below := n.child(last + 1)
	if below == nil {
		return takeAt(&n.items, last)
	}
	x := below.takeLast()
	n.fillChild(last + 1)
	return x
}

// fillChild lets a child have enough keys, if it has one too few: by one of a neighbour's, or, where no neighbour can spare one, all of it.
func (n *node[V]) fillChild(i int) {
	switch {
	case !n.children[i].hasTooFew():
	case i > 0 && n.children[i-1].canSpare():
		n.moveBehind(i - 1)
	case i < len(n.items) && n.children[i+1].canSpare():
		n.moveAhead(i)
	case i > 0:
		n.joinChildren(i - 1)
	default:
		n.joinChildren(i)
	}
}

// moveBehind moves the last item of a child up, and what stood there down to the next child.
func (n *node[V]) moveBehind(i int) {
	left, right := n.children[i], n.children[i+1]
	right.items = slices.Insert(right.items, 0, n.items[i])
	n.items[i] = takeAt(&left.items, len(left.items)-1)
	if len(left.children) > 0 {
		right.children = slices.Insert(right.children, 0, takeAt(&left.children, len(left.children)-1))
	}
}

// moveAhead moves the first item of the next child up, and what stood there down to the child i.
func (n *node[V]) moveAhead(i int) {
	left, right := n.children[i], n.children[i+1]
	left.items = append(left.items, n.items[i])
	n.items[i] = takeAt(&right.items, 0)
	if len(right.children) > 0 {
		left.children = append(left.children, takeAt(&right.children, 0))
	}
}

// joinChildren makes one node of a child, the item behind it and the next child.
func (n *node[V]) joinChildren(i int) {
	left := n.children[i]
	right := takeAt(&n.children, i+1)
	left.items = append(left.items, takeAt(&n.items, i))
	left.items = append(left.items, right.items...)
	left.children = append(left.children, right.children...)
}

// appendKeys lays all keys below a node, in order, behind some others.
func (n *node[V]) appendKeys(keys []string) []string {
	if n == nil {
		return keys
	}
	for i, x := range n.items {
		keys = append(n.child(i).appendKeys(keys), x.key)
	}
	return n.child(len(n.items)).appendKeys(keys)
}

// asRow is a node alone; nothing, if it is nil.
func (n *node[V]) asRow() []*node[V] {
	if n == nil {
		return nil
	}
	return []*node[V]{n}
}

// clone is a node with the same below it, which shares no memory with this one.
func (n *node[V]) clone() *node[V] {
	if n == nil {
		return nil
	}
	other := &node[V]{items: slices.Clone(n.items)}
	for _, c := range n.children {
		other.children = append(other.children, c.clone())
	}
	return other
}

// takeAt takes an element out of a list. Nothing is kept of it in the spare room behind.
func takeAt[T any](l *[]T, i int) T {
	taken := (*l)[i]
	*l = slices.Delete(*l, i, i+1)
	return taken
}
