package tree

import (
	"fmt"
	"math/rand"
	"slices"
	"testing"
)

// walk goes through a node and all below it, with what keys must lie behind and ahead of, and lays the counts of keys into rows.
func walk(t *testing.T, n *node[*int], behind, ahead *string, row int, rows [][]int) [][]int {
	t.Helper()
	if row == len(rows) {
		rows = append(rows, nil)
	}
	rows[row] = append(rows[row], len(n.items))
	if len(n.children) != 0 && len(n.children) != len(n.items)+1 {
		t.Fatalf("%d keys with %d children", len(n.items), len(n.children))
	}
	for i := range len(n.items) + 1 {
		next := ahead
		if i < len(n.items) {
			next = &n.items[i].key
		}
		if behind != nil && next != nil && *behind >= *next {
			t.Fatalf("%q ahead of %q", *behind, *next)
		}
		if c := n.child(i); c != nil {
			rows = walk(t, c, behind, next, row+1, rows)
		}
		behind = next
	}
	return rows
}

// keepsNothing looks for something in the spare room behind a node's items and children.
func keepsNothing(t *testing.T, n *node[*int]) {
	t.Helper()
	for _, x := range n.items[len(n.items):cap(n.items)] {
		if x.key != "" || x.value != nil {
			t.Fatalf("%q is kept", x.key)
		}
	}
	for _, c := range n.children[len(n.children):cap(n.children)] {
		if c != nil {
			t.Fatalf("a node with %d keys is kept", len(c.items))
		}
	}
	for _, c := range n.children {
		keepsNothing(t, c)
	}
}

// sound looks at the nodes themselves: what Shape tells must be how they stand.
func sound(t *testing.T, x *Tree[*int], how string) {
	t.Helper()
	if x.count == 0 {
		if x.root != nil {
			t.Fatalf("%s: no keys, but a root", how)
		}
		return
	}
	rows := walk(t, x.root, nil, nil, 0, nil)
	if got := x.Shape(); !slices.EqualFunc(got, rows, slices.Equal) {
		t.Fatalf("%s: Shape: %v, not %v", how, got, rows)
	}
	for i, row := range rows {
		for _, count := range row {
			if count > mostKeys || i > 0 && count < leastKeys {
				t.Fatalf("%s: %v", how, rows)
			}
		}
	}
	keepsNothing(t, x.root)
}

// Shape tells the nodes as they stand, with each key between the two about it, and nothing is kept of what was dropped.
func TestTE3ShapeTellsTheNodes(t *testing.T) {
	for seed := range int64(20) {
		chance := rand.New(rand.NewSource(seed))
		x := New[*int]()
		for round := range 8 {
			for range 200 {
				key := fmt.Sprint(chance.Intn(50 + 100*int(seed)))
				if chance.Intn(10) < 2+6*(round%2) {
					x.Drop(key)
				} else {
					x.Put(key, new(int))
				}
				sound(t, x, key)
			}
		}
		for _, key := range x.Keys() {
			x.Drop(key)
			sound(t, x, key)
		}
	}
}

// nodesOf are a node and all below it.
func nodesOf(n *node[*int]) []*node[*int] {
	out := []*node[*int]{n}
	for _, c := range n.children {
		out = append(out, nodesOf(c)...)
	}
	return out
}

// A clone has no node, and no room for items or children, of the other tree.
func TestTE4CloneSharesNoNode(t *testing.T) {
	x := New[*int]()
	for i := range 500 {
		x.Put(fmt.Sprint(i*7%500), new(int))
	}
	clone := x.Clone()
	sound(t, clone, "a clone")
	mine, its := nodesOf(x.root), nodesOf(clone.root)
	if len(mine) != len(its) {
		t.Fatalf("%d nodes, not %d", len(its), len(mine))
	}
	for i, n := range mine {
		other := its[i]
		if n == other || &n.items[0] == &other.items[0] || len(n.children) > 0 && &n.children[0] == &other.children[0] {
			t.Fatalf("node %d is shared", i)
		}
	}
}
