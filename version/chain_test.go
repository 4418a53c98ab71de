package version

import (
	"fmt"
	"testing"

	"barbican/cursor"
)

// sound looks at the chains themselves: each has versions, ascending, and no more is kept than they need.
func sound(t *testing.T, s *Store, how string) {
	t.Helper()
	for key, c := range cursor.All(s.kept(), cursor.Range{}) {
		if len(c) == 0 {
			t.Fatalf("%s: %q is kept without versions", how, key)
		}
		for i, v := range c {
			if i > 0 && c[i-1].at >= v.at {
				t.Fatalf("%s: %q: %d ahead of %d", how, key, c[i-1].at, v.at)
			}
			if v.gone && v.row != nil {
				t.Fatalf("%s: %q: a row is kept of one that is gone", how, key)
			}
		}
		for _, v := range c[len(c):cap(c)] {
			if v.row != nil {
				t.Fatalf("%s: %q: the row %q is kept", how, key, v.row)
			}
		}
	}
}

// Nothing is kept of what went, or of what another version stands in place of.
func TestVN2NothingIsKept(t *testing.T) {
	s := New()
	for at := 1; at <= 60; at++ {
		for i := range 12 {
			s.Put(fmt.Sprint(i), at, []byte{byte(at)}, false)
			s.Put(fmt.Sprint(i), at, []byte{byte(i)}, (at+i)%5 == 0)
			sound(t, s, fmt.Sprintf("%d of %d", i, at))
		}
		if at%7 == 0 {
			s.Prune(at - 3)
			sound(t, s, fmt.Sprintf("pruned at %d", at))
		}
	}
	s.Prune(60)
	sound(t, s, "pruned at last")
	if got, want := s.kept().Len(), s.Count(60); got != want || want == 12 || want == 0 {
		t.Errorf("%d keys are kept, not %d", got, want)
	}
	for key, c := range cursor.All(s.kept(), cursor.Range{}) {
		if cap(c) > 4 {
			t.Errorf("%q: room for %d versions is kept", key, cap(c))
		}
	}
}

// A clone has no room for versions of another store's chains.
func TestVN3CloneSharesNoChain(t *testing.T) {
	s := New()
	for at := 1; at <= 5; at++ {
		for i := range 20 {
			s.Put(fmt.Sprint(i), at, []byte{byte(at)}, false)
		}
	}
	clone := s.Clone()
	sound(t, clone, "a clone")
	for key, c := range cursor.All(s.kept(), cursor.Range{}) {
		other, _ := clone.kept().Get(key)
		if len(other) != len(c) || &other[0] == &c[0] {
			t.Errorf("%q: %d versions of %d", key, len(other), len(c))
		}
	}
}

// Whoever leaves the rows early is handed nothing more.
func TestVN1RowsLeftEarly(t *testing.T) {
	s := New()
	for i := range 9 {
		s.Put(fmt.Sprint(i), 1, nil, i%3 == 0)
	}
	for n := 1; n <= 6; n++ {
		calls := 0
		s.rows(cursor.Range{}, 1)(func(string, []byte) bool {
			calls++
			return calls < n
		})
		if calls != n {
			t.Errorf("left behind %d: handed %d", n, calls)
		}
	}
}
