package version

import "sort"

// version is what a commit made of a key: a row, or that it is gone.
type version struct {
	at   int
	row  []byte // never written over once it stands here; nil of one that is gone
	gone bool
}

// chain is a key's versions by their commits, ascending.
type chain []version

// last is the commit of the last version; 0, which is below all commits, if there is none.
func (c chain) last() int {
	if len(c) == 0 {
		return 0
	}
	return c[len(c)-1].at
}

// with is the chain with a version that none of its own comes behind: in place of its last one, if that is of the same commit.
func (c chain) with(v version) chain {
	if c.last() == v.at {
		c = c[:len(c)-1]
	}
	return append(c, v)
}

// upTo is how many versions have commits that are not above one.
func (c chain) upTo(at int) int {
	return sort.Search(len(c), func(i int) bool { return c[i].at > at })
}

// row is what the key has as of a commit.
func (c chain) row(at int) ([]byte, bool) {
	n := c.upTo(at)
	if n == 0 || c[n-1].gone {
		return nil, false
	}
	return c[n-1].row, true
}

// unseen is how many versions, from the first one on, nobody sees from a commit on.
func (c chain) unseen(at int) int {
	n := c.upTo(at)
	switch {
	case n == 0:
		return 0
	case n == len(c) && c[n-1].gone:
		// With nothing behind it a key that is gone is one that was never there.
		return n
	}
	return n - 1
}
