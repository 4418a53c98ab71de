package version_test

import (
	"fmt"
	"maps"
	"math"
	"math/rand"
	"slices"
	"strings"
	"sync"
	"testing"

	"barbican/api"
	"barbican/cursor"
	"barbican/version"
)

// laid is a version: of a key, by a commit, a row, or that it is gone.
type laid struct {
	key  string
	at   int
	row  string
	gone bool
}

// String tells a version as Put is called with it.
func (v laid) String() string { return fmt.Sprintf("(%q, %d, %q, %v)", v.key, v.at, v.row, v.gone) }

// pair is a key with its row.
type pair struct{ key, row string }

// told is what the chapter's words tell of a store: its versions, as they came.
type told struct{ all []laid }

// put is Put by the words.
func (m *told) put(v laid) error {
	if v.at < 1 || slices.ContainsFunc(m.all, func(x laid) bool { return x.key == v.key && x.at > v.at }) {
		return api.ErrArg
	}
	m.all = slices.DeleteFunc(m.all, func(x laid) bool { return x.key == v.key && x.at == v.at })
	m.all = append(m.all, v)
	return nil
}

// as is the version that a key has as of a commit.
func (m *told) as(key string, at int) (laid, bool) {
	var best laid
	there := false
	for _, v := range m.all {
		if v.key == key && v.at <= at && (!there || v.at > best.at) {
			best, there = v, true
		}
	}
	return best, there
}

// get is Get by the words.
func (m *told) get(key string, at int) (string, bool) {
	v, there := m.as(key, at)
	if !there || v.gone {
		return "", false
	}
	return v.row, true
}

// keys are those that have a version, in order.
func (m *told) keys() []string {
	seen := map[string]bool{}
	for _, v := range m.all {
		seen[v.key] = true
	}
	return slices.Sorted(maps.Keys(seen))
}

// rows is Range by the words.
func (m *told) rows(r cursor.Range, at int) []pair {
	var out []pair
	for _, k := range m.keys() {
		if row, is := m.get(k, at); is && cursor.Has(r, k) {
			out = append(out, pair{k, row})
		}
	}
	return out
}

// changed is Changed by the words.
func (m *told) changed(r cursor.Range, since int) bool {
	return slices.ContainsFunc(m.all, func(v laid) bool { return cursor.Has(r, v.key) && v.at > since })
}

// count is Count by the words.
func (m *told) count(at int) int {
	n := 0
	for _, k := range m.keys() {
		if _, is := m.get(k, at); is {
			n++
		}
	}
	return n
}

// prune is Prune by the words.
func (m *told) prune(at int) int {
	var left []laid
	for _, v := range m.all {
		seen, there := m.as(v.key, at)
		last, _ := m.as(v.key, math.MaxInt)
		if there && (v.at < seen.at || v == seen && seen.gone && seen == last) {
			continue
		}
		left = append(left, v)
	}
	went := len(m.all) - len(left)
	m.all = left
	return went
}

// copied is the same, apart.
func (m *told) copied() *told { return &told{slices.Clone(m.all)} }

// both puts the same to a store and to the words, and holds what they answer against one another.
func both(t *testing.T, s *version.Store, m *told, v laid) {
	t.Helper()
	got, want := s.Put(v.key, v.at, []byte(v.row), v.gone), m.put(v)
	if got != want {
		t.Fatalf("Put%v: %v, not %v", v, got, want)
	}
}

// made is a store of some versions, and what the words tell of it.
func made(t *testing.T, l ...laid) (*version.Store, *told) {
	t.Helper()
	s, m := version.New(), &told{}
	for _, v := range l {
		if err := s.Put(v.key, v.at, []byte(v.row), v.gone); err != nil {
			t.Fatalf("Put%v: %v", v, err)
		}
		m.put(v)
	}
	return s, m
}

// pairs are items as they can be held against others.
func pairs(l []version.Item) []pair {
	var out []pair
	for _, x := range l {
		out = append(out, pair{x.Key, string(x.Row)})
	}
	return out
}

// gets holds Get of a key as of a commit.
func gets(t *testing.T, s *version.Store, key string, at int, want string, is bool, how string) {
	t.Helper()
	row, got := s.Get(key, at)
	if string(row) != want || got != is {
		t.Fatalf("%s: Get(%q, %d): %q, %v, not %q, %v", how, key, at, row, got, want, is)
	}
}

// holds asks a store for all that it tells of some keys, ranges and commits.
func holds(t *testing.T, s *version.Store, m *told, keys []string, ranges []cursor.Range, commits []int, how string) {
	t.Helper()
	if got, want := s.Versions(), len(m.all); got != want {
		t.Fatalf("%s: Versions: %d, not %d", how, got, want)
	}
	for _, at := range commits {
		for _, k := range keys {
			want, is := m.get(k, at)
			gets(t, s, k, at, want, is, how)
		}
		if got, want := s.Count(at), m.count(at); got != want {
			t.Fatalf("%s: Count(%d): %d, not %d", how, at, got, want)
		}
		for _, r := range ranges {
			if got, want := pairs(s.Range(r, at)), m.rows(r, at); !slices.Equal(got, want) {
				t.Fatalf("%s: Range(%s, %d): %q, not %q", how, cursor.Text(r), at, got, want)
			}
			if got, want := s.Changed(r, at), m.changed(r, at); got != want {
				t.Fatalf("%s: Changed(%s, %d): %v, not %v", how, cursor.Text(r), at, got, want)
			}
		}
	}
}

// someKeys are keys of which some begin with another one, in order; the first is empty.
func someKeys() []string { return []string{"", "\x00", "a", "a\x00", "ab", "b", "\xff"} }

// someRanges are ranges of all kinds of ends over them, empty ones and such as no key lies in too.
func someRanges() []cursor.Range {
	out := []cursor.Range{
		{},
		{From: "b", To: "a", OpenFrom: true},
		cursor.Prefix(""), cursor.Prefix("a"), cursor.Prefix("\xff"), cursor.Prefix("ac"),
		{From: "c", To: "d", HasFrom: true, HasTo: true},
		{From: "b", To: "a", HasFrom: true, HasTo: true},
		{From: "a", To: "a", HasFrom: true, HasTo: true, OpenTo: true},
		{From: "a", To: "a\x00", HasFrom: true, HasTo: true, OpenFrom: true, OpenTo: true},
	}
	for _, k := range someKeys() {
		out = append(out, cursor.One(k),
			cursor.Range{From: k, HasFrom: true}, cursor.Range{From: k, HasFrom: true, OpenFrom: true},
			cursor.Range{To: k, HasTo: true}, cursor.Range{To: k, HasTo: true, OpenTo: true},
			cursor.Range{From: "a", To: k, HasFrom: true, HasTo: true, OpenFrom: true})
	}
	return out
}

// upTo are the commits from -1 to a little above n, and those at the ends of all numbers.
func upTo(n int) []int {
	out := []int{math.MinInt, math.MaxInt}
	for at := -1; at <= n+2; at++ {
		out = append(out, at)
	}
	return out
}

// whole holds a store with the keys of someKeys.
func whole(t *testing.T, s *version.Store, m *told, last int, how string) {
	t.Helper()
	holds(t, s, m, someKeys(), someRanges(), upTo(last), how)
}

func TestVN1VN2Examples(t *testing.T) {
	s, _ := made(t, laid{"a", 1, "x", false}, laid{"a", 3, "", true})
	gets(t, s, "a", 2, "x", true, "the example")
	gets(t, s, "a", 3, "", false, "the example")
	if got := s.Prune(3); got != 2 {
		t.Errorf("Prune(3): %d", got)
	}
	if got := s.Versions(); got != 0 {
		t.Errorf("Versions: %d", got)
	}
}

func TestVN1New(t *testing.T) {
	whole(t, version.New(), &told{}, 3, "a new store")
	if got := version.New().Prune(5); got != 0 {
		t.Errorf("Prune: %d", got)
	}
}

// Each Put is put to a store in which a has the commits 3 and 5, and b is gone by the commit 4.
func TestVN1Put(t *testing.T) {
	for _, c := range []struct {
		v    laid
		want error
	}{
		{laid{"a", 5, "y", false}, nil},
		{laid{"a", 5, "", true}, nil},
		{laid{"a", 6, "y", false}, nil},
		{laid{"a", 1 << 40, "y", false}, nil},
		{laid{"a", math.MaxInt, "y", false}, nil},
		{laid{"a", 4, "y", false}, api.ErrArg},
		{laid{"a", 3, "y", false}, api.ErrArg},
		{laid{"a", 3, "", true}, api.ErrArg},
		{laid{"a", 2, "y", false}, api.ErrArg},
		{laid{"a", 1, "y", false}, api.ErrArg},
		{laid{"a", 0, "y", false}, api.ErrArg},
		{laid{"a", -1, "y", false}, api.ErrArg},
		{laid{"a", math.MinInt, "", true}, api.ErrArg},
		{laid{"b", 4, "y", false}, nil},
		{laid{"b", 4, "", true}, nil},
		{laid{"b", 5, "", true}, nil},
		{laid{"b", 3, "y", false}, api.ErrArg},
		{laid{"b", 3, "", true}, api.ErrArg},
		{laid{"c", 1, "y", false}, nil},
		{laid{"c", 1, "", true}, nil},
		{laid{"c", 9, "y", false}, nil},
		{laid{"c", 0, "y", false}, api.ErrArg},
		{laid{"c", 0, "", true}, api.ErrArg},
		{laid{"c", -7, "y", false}, api.ErrArg},
		{laid{"", 1, "y", false}, nil},
		{laid{"", 0, "y", false}, api.ErrArg},
	} {
		s, m := made(t, laid{"a", 3, "r3", false}, laid{"a", 5, "r5", false}, laid{"b", 4, "", true})
		if got := s.Put(c.v.key, c.v.at, []byte(c.v.row), c.v.gone); got != c.want {
			t.Errorf("Put%v: %v, not %v", c.v, got, c.want)
		}
		if c.want == nil {
			m.put(c.v)
		}
		holds(t, s, m, []string{"", "a", "b", "c"}, []cursor.Range{{}, cursor.One("a"), cursor.One("c")}, append(upTo(9), 1<<40-1, 1<<40), fmt.Sprintf("behind Put%v", c.v))
	}
}

// The version of the same commit stands in place of the one ahead, and there is none more.
func TestVN1PutTheSameCommitAgain(t *testing.T) {
	kinds := []laid{{"a", 2, "", true}, {"a", 2, "x", false}, {"a", 2, "longer", false}, {"a", 2, "", false}}
	for _, first := range kinds {
		for _, second := range kinds {
			for _, ahead := range []bool{false, true} {
				s, m := version.New(), &told{}
				if ahead {
					both(t, s, m, laid{"a", 1, "r1", false})
				}
				both(t, s, m, first)
				both(t, s, m, second)
				how := fmt.Sprintf("%v behind %v", second, first)
				gets(t, s, "a", 2, second.row, !second.gone, how)
				whole(t, s, m, 2, how)
				both(t, s, m, first)
				both(t, s, m, laid{"a", 3, "r3", false})
				whole(t, s, m, 3, how+", and once more")
			}
		}
	}
}

// A row without bytes is a row: nil and the empty one are the same.
func TestVN1PutAnEmptyRow(t *testing.T) {
	for _, row := range [][]byte{nil, {}, make([]byte, 0, 8)} {
		s := version.New()
		if err := s.Put("a", 1, row, false); err != nil {
			t.Fatal(err)
		}
		gets(t, s, "a", 1, "", true, "an empty row")
		gets(t, s, "a", 0, "", false, "ahead of it")
		if got := s.Range(cursor.Range{}, 1); len(got) != 1 || got[0].Key != "a" || len(got[0].Row) != 0 {
			t.Errorf("Range: %q", got)
		}
		if s.Count(1) != 1 || s.Versions() != 1 || s.Prune(1) != 0 || s.Count(1) != 1 {
			t.Errorf("Count: %d, Versions: %d", s.Count(1), s.Versions())
		}
	}
}

func TestVN1TheEmptyKey(t *testing.T) {
	s, m := made(t, laid{"", 2, "x", false})
	whole(t, s, m, 2, "the empty key")
	both(t, s, m, laid{"", 1, "y", false})
	both(t, s, m, laid{"\x00", 1, "y", false})
	both(t, s, m, laid{"", 3, "", true})
	whole(t, s, m, 3, "the empty key, gone")
	if got := s.Prune(3); got != 2 || m.prune(3) != 2 {
		t.Errorf("Prune: %d", got)
	}
	whole(t, s, m, 3, "the empty key, pruned")
}

// Of one that is gone the row beside it is not looked at.
func TestVN1PutGoneWithARow(t *testing.T) {
	for _, row := range [][]byte{nil, {}, []byte("x"), make([]byte, 1000)} {
		s := version.New()
		if err := s.Put("a", 1, row, true); err != nil {
			t.Fatal(err)
		}
		for at := range 4 {
			if got, is := s.Get("a", at); len(got) != 0 || is {
				t.Errorf("Get(%d): %q, %v", at, got, is)
			}
			if got := s.Range(cursor.Range{}, at); len(got) != 0 {
				t.Errorf("Range(%d): %q", at, got)
			}
			if got := s.Count(at); got != 0 {
				t.Errorf("Count(%d): %d", at, got)
			}
		}
		if !s.Changed(cursor.One("a"), 0) || s.Changed(cursor.One("a"), 1) || s.Versions() != 1 {
			t.Errorf("Versions: %d", s.Versions())
		}
		if got := s.Prune(1); got != 1 {
			t.Errorf("Prune: %d", got)
		}
	}
}

func TestVN1Get(t *testing.T) {
	s, _ := made(t,
		laid{"a", 2, "two", false}, laid{"a", 4, "four", false}, laid{"a", 5, "", true}, laid{"a", 7, "seven", false}, laid{"a", 9, "", true},
		laid{"ab", 3, "beside", false})
	for _, c := range []struct {
		key  string
		at   int
		want string
		is   bool
	}{
		{"a", math.MinInt, "", false},
		{"a", -1, "", false},
		{"a", 0, "", false},
		{"a", 1, "", false},
		{"a", 2, "two", true},
		{"a", 3, "two", true},
		{"a", 4, "four", true},
		{"a", 5, "", false},
		{"a", 6, "", false},
		{"a", 7, "seven", true},
		{"a", 8, "seven", true},
		{"a", 9, "", false},
		{"a", 10, "", false},
		{"a", math.MaxInt, "", false},
		{"ab", 2, "", false},
		{"ab", 3, "beside", true},
		{"ab", math.MaxInt, "beside", true},
		{"", 9, "", false},
		{"a\x00", 9, "", false},
		{"aa", 9, "", false},
		{"A", 9, "", false},
		{"b", 9, "", false},
	} {
		gets(t, s, c.key, c.at, c.want, c.is, "Get")
	}
}

func TestVN1Range(t *testing.T) {
	// Put in another order than that of the keys.
	s, _ := made(t,
		laid{"c", 1, "c1", false}, laid{"a", 2, "a2", false}, laid{"e", 2, "e2", false}, laid{"b", 3, "b3", false},
		laid{"c", 4, "", true}, laid{"a", 5, "a5", false}, laid{"d", 5, "", true}, laid{"c", 6, "c6", false})
	from := func(k string) cursor.Range { return cursor.Range{From: k, HasFrom: true} }
	for _, c := range []struct {
		r    cursor.Range
		at   int
		want string
	}{
		{cursor.Range{}, -1, ""},
		{cursor.Range{}, 0, ""},
		{cursor.Range{}, 1, "c:c1"},
		{cursor.Range{}, 2, "a:a2 c:c1 e:e2"},
		{cursor.Range{}, 3, "a:a2 b:b3 c:c1 e:e2"},
		{cursor.Range{}, 4, "a:a2 b:b3 e:e2"},
		{cursor.Range{}, 5, "a:a5 b:b3 e:e2"},
		{cursor.Range{}, 6, "a:a5 b:b3 c:c6 e:e2"},
		{cursor.Range{}, math.MaxInt, "a:a5 b:b3 c:c6 e:e2"},
		{cursor.Range{From: "b", To: "b", OpenTo: true}, 6, "a:a5 b:b3 c:c6 e:e2"},
		{from("b"), 6, "b:b3 c:c6 e:e2"},
		{from("b"), 2, "c:c1 e:e2"},
		{from("c"), 4, "e:e2"},
		{cursor.Range{From: "a", To: "c", HasFrom: true, HasTo: true, OpenFrom: true, OpenTo: true}, 6, "b:b3"},
		{cursor.Range{From: "a", To: "c", HasFrom: true, HasTo: true}, 6, "a:a5 b:b3 c:c6"},
		{cursor.One("c"), 6, "c:c6"},
		{cursor.One("c"), 5, ""},
		{cursor.One("d"), 6, ""},
		{cursor.One("x"), 6, ""},
		{from("f"), 6, ""},
		{cursor.Range{To: "a", HasTo: true, OpenTo: true}, 6, ""},
		{cursor.Range{From: "c", To: "a", HasFrom: true, HasTo: true}, 6, ""},
		{cursor.Range{From: "c", To: "c", HasFrom: true, HasTo: true, OpenFrom: true}, 6, ""},
	} {
		var got []string
		for _, x := range s.Range(c.r, c.at) {
			got = append(got, x.Key+":"+string(x.Row))
		}
		if strings.Join(got, " ") != c.want {
			t.Errorf("Range(%s, %d): %q, not %q", cursor.Text(c.r), c.at, got, c.want)
		}
	}
}

func TestVN1Count(t *testing.T) {
	s, _ := made(t,
		laid{"a", 1, "x", false}, laid{"b", 1, "", true}, laid{"c", 2, "", false}, laid{"a", 3, "y", false},
		laid{"c", 4, "", true}, laid{"b", 5, "x", false}, laid{"a", 6, "", true}, laid{"b", 6, "", true}, laid{"c", 8, "z", false})
	for at, want := range []int{0, 1, 2, 2, 1, 2, 0, 0, 1, 1} {
		if got := s.Count(at); got != want {
			t.Errorf("Count(%d): %d, not %d", at, got, want)
		}
	}
	for at, want := range map[int]int{math.MinInt: 0, -1: 0, math.MaxInt: 1} {
		if got := s.Count(at); got != want {
			t.Errorf("Count(%d): %d, not %d", at, got, want)
		}
	}
}

func TestVN1Changed(t *testing.T) {
	s, _ := made(t,
		laid{"a", 2, "x", false}, laid{"a", 5, "y", false},
		laid{"b", 3, "x", false}, laid{"b", 7, "", true},
		laid{"d", 4, "", true})
	for _, c := range []struct {
		r     cursor.Range
		since int
		want  bool
	}{
		{cursor.One("a"), math.MinInt, true},
		{cursor.One("a"), -1, true},
		{cursor.One("a"), 0, true},
		{cursor.One("a"), 2, true},
		{cursor.One("a"), 4, true},
		{cursor.One("a"), 5, false},
		{cursor.One("a"), 6, false},
		{cursor.One("a"), math.MaxInt, false},
		{cursor.One("b"), 3, true},
		{cursor.One("b"), 6, true},
		{cursor.One("b"), 7, false},
		{cursor.One("c"), -1, false},
		{cursor.One("c"), 0, false},
		{cursor.One("d"), 0, true},
		{cursor.One("d"), 3, true},
		{cursor.One("d"), 4, false},
		{cursor.Range{}, 6, true},
		{cursor.Range{}, 7, false},
		{cursor.Range{From: "b", To: "b", OpenTo: true}, 6, true},
		{cursor.Range{To: "b", HasTo: true, OpenTo: true}, 4, true},
		{cursor.Range{To: "b", HasTo: true, OpenTo: true}, 5, false},
		{cursor.Range{To: "b", HasTo: true}, 5, true},
		{cursor.Range{From: "b", HasFrom: true, OpenFrom: true}, 3, true},
		{cursor.Range{From: "b", HasFrom: true, OpenFrom: true}, 4, false},
		{cursor.Range{From: "b", To: "d", HasFrom: true, HasTo: true, OpenFrom: true, OpenTo: true}, math.MinInt, false},
		{cursor.Range{From: "e", HasFrom: true}, math.MinInt, false},
		{cursor.Range{From: "b", To: "a", HasFrom: true, HasTo: true}, 0, false},
		{cursor.Prefix("a"), 4, true},
		{cursor.Prefix("aa"), 0, false},
	} {
		if got := s.Changed(c.r, c.since); got != c.want {
			t.Errorf("Changed(%s, %d): %v, not %v", cursor.Text(c.r), c.since, got, c.want)
		}
	}
}

// What a commit did is a change also where it is in place of another version, and where it leaves the row as it was.
func TestVN1ChangedBySameRows(t *testing.T) {
	s, _ := made(t, laid{"a", 1, "x", false}, laid{"a", 2, "x", false})
	if !s.Changed(cursor.One("a"), 1) || s.Changed(cursor.One("a"), 2) {
		t.Error("the same row by a later commit")
	}
	s, _ = made(t, laid{"a", 1, "", true}, laid{"a", 3, "", true})
	if !s.Changed(cursor.One("a"), 2) || s.Changed(cursor.One("a"), 3) {
		t.Error("gone once more")
	}
}

func TestVN2Prune(t *testing.T) {
	x := func(at int) laid { return laid{"a", at, fmt.Sprint("r", at), false} }
	gone := func(at int) laid { return laid{"a", at, "", true} }
	for _, c := range []struct {
		name string
		l    []laid
		at   int
		went int
	}{
		{"nothing there", nil, 5, 0},
		{"ahead of all", []laid{x(2), x(3)}, 1, 0},
		{"a commit that none can have", []laid{x(2), x(3)}, 0, 0},
		{"below all numbers", []laid{x(2), x(3)}, math.MinInt, 0},
		{"at the first", []laid{x(2), x(3)}, 2, 0},
		{"at the second", []laid{x(2), x(3)}, 3, 1},
		{"behind all", []laid{x(2), x(3)}, 4, 1},
		{"above all numbers", []laid{x(2), x(3), x(4)}, math.MaxInt, 2},
		{"between", []laid{x(2), x(4), x(6)}, 5, 1},
		{"one row", []laid{x(2)}, 9, 0},
		{"gone alone, ahead", []laid{gone(2)}, 1, 0},
		{"gone alone, at", []laid{gone(2)}, 2, 1},
		{"gone alone, behind", []laid{gone(2)}, 3, 1},
		{"last gone, ahead of it", []laid{x(2), x(3), gone(4)}, 3, 1},
		{"last gone, at it", []laid{x(2), x(3), gone(4)}, 4, 3},
		{"last gone, behind it", []laid{x(2), x(3), gone(4)}, 5, 3},
		{"gone with later ones, at it", []laid{x(2), gone(3), x(5)}, 3, 1},
		{"gone with later ones, between", []laid{x(2), gone(3), x(5)}, 4, 1},
		{"gone with later ones, at the later one", []laid{x(2), gone(3), x(5)}, 5, 2},
		{"gone first, at it, with later ones", []laid{gone(1), x(2)}, 1, 0},
		{"gone first, at the later one", []laid{gone(1), x(2)}, 2, 1},
		{"gone twice, at the first", []laid{gone(1), gone(2)}, 1, 0},
		{"gone twice, at the second", []laid{gone(1), gone(2)}, 2, 2},
		{"gone, came, gone: at the first", []laid{x(1), gone(2), x(3), gone(4)}, 2, 1},
		{"gone, came, gone: at the last", []laid{x(1), gone(2), x(3), gone(4)}, 4, 4},
	} {
		s, m := made(t, c.l...)
		m.prune(c.at)
		if got := s.Prune(c.at); got != c.went || len(c.l)-len(m.all) != c.went {
			t.Errorf("%s: Prune(%d): %d, not %d", c.name, c.at, got, c.went)
		}
		whole(t, s, m, 6, c.name)
		if got := s.Prune(c.at); got != 0 {
			t.Errorf("%s: Prune(%d) again: %d", c.name, c.at, got)
		}
		whole(t, s, m, 6, c.name+", again")
	}
}

// Each key is pruned by its own versions, and what went of all of them is told.
func TestVN2PruneManyKeys(t *testing.T) {
	l := []laid{
		{"", 4, "x", false}, {"a", 1, "x", false}, {"ab", 1, "", true}, {"b", 2, "x", false}, {"\xff", 3, "", true},
		{"a", 2, "y", false}, {"b", 3, "", true}, {"ab", 3, "x", false}, {"a", 4, "", true}, {"b", 5, "z", false}}
	for at, want := range []int{0, 0, 1, 4, 6, 7, 7} {
		s, m := made(t, l...)
		if got, words := s.Prune(at), m.prune(at); got != want || words != want {
			t.Errorf("Prune(%d): %d, by the words %d, not %d", at, got, words, want)
		}
		whole(t, s, m, 6, fmt.Sprintf("behind Prune(%d)", at))
	}
}

// A key of which all versions went has none that refuses a lower commit; one that has some left refuses it.
func TestVN2PutBehindPrune(t *testing.T) {
	s, m := made(t, laid{"a", 3, "x", false}, laid{"a", 5, "", true}, laid{"b", 3, "x", false}, laid{"b", 5, "y", false})
	if got := s.Prune(5); got != 3 || m.prune(5) != 3 {
		t.Fatalf("Prune: %d", got)
	}
	both(t, s, m, laid{"b", 4, "z", false})
	both(t, s, m, laid{"a", 0, "z", false})
	both(t, s, m, laid{"a", 1, "z", false})
	gets(t, s, "a", 1, "z", true, "put anew")
	both(t, s, m, laid{"b", 5, "again", false})
	both(t, s, m, laid{"b", 6, "", true})
	whole(t, s, m, 6, "put behind Prune")
}

// chains are all that one key can have by the commits 1 to n: at each one a row, gone, or nothing.
func chains(n int) [][]laid {
	out := [][]laid{nil}
	for at := 1; at <= n; at++ {
		for _, l := range slices.Clone(out) {
			out = append(out, append(slices.Clone(l), laid{"a", at, fmt.Sprint("r", at), false}))
			out = append(out, append(slices.Clone(l), laid{"a", at, "", true}))
		}
	}
	return out
}

// Every chain, pruned at every commit, and once more at every other one, and put to at every one.
func TestVN1VN2VN3EachChain(t *testing.T) {
	const n = 5
	keys, ranges := []string{"", "a", "b"}, []cursor.Range{{}, cursor.One("a"), cursor.One("b"), {From: "a", HasFrom: true, OpenFrom: true}}
	ask := func(s *version.Store, m *told, how string) {
		t.Helper()
		holds(t, s, m, keys, ranges, upTo(n), how)
	}
	all := chains(n)
	if len(all) != 243 {
		t.Fatalf("%d chains", len(all))
	}
	for _, l := range all {
		first, fm := made(t, l...)
		ask(first, fm, fmt.Sprint(l))
		for at := -1; at <= n+1; at++ {
			second, sm := first.Clone(), fm.copied()
			if got, want := second.Prune(at), sm.prune(at); got != want {
				t.Fatalf("%v: Prune(%d): %d, not %d", l, at, got, want)
			}
			how := fmt.Sprintf("%v behind Prune(%d)", l, at)
			ask(second, sm, how)
			for next := -1; next <= n+1; next++ {
				third, tm := second.Clone(), sm.copied()
				if got, want := third.Prune(next), tm.prune(next); got != want {
					t.Fatalf("%s: Prune(%d): %d, not %d", how, next, got, want)
				}
				ask(third, tm, fmt.Sprintf("%s and Prune(%d)", how, next))
				for _, gone := range []bool{false, true} {
					fourth, m := second.Clone(), sm.copied()
					both(t, fourth, m, laid{"a", next, "new", gone})
					ask(fourth, m, fmt.Sprintf("%s and Put(%d, %v)", how, next, gone))
				}
			}
		}
	}
}

// some is a version of one of some keys, that a store may take or not.
func some(chance *rand.Rand, keys []string, from, to int) laid {
	v := laid{keys[chance.Intn(len(keys))], from + chance.Intn(to-from+1), "", chance.Intn(3) == 0}
	if !v.gone {
		v.row = strings.Repeat("r", chance.Intn(3)) + fmt.Sprint(v.at)
	}
	return v
}

// Runs of Put and Prune, and now and then a clone that goes on in place of the store.
func TestVN1VN2VN3Mixed(t *testing.T) {
	for seed := range int64(30) {
		chance := rand.New(rand.NewSource(seed))
		s, m := version.New(), &told{}
		last := 0
		for step := range 120 {
			how := fmt.Sprintf("seed %d step %d", seed, step)
			switch chance.Intn(8) {
			case 0:
				at := chance.Intn(last+3) - 1
				if got, want := s.Prune(at), m.prune(at); got != want {
					t.Fatalf("%s: Prune(%d): %d, not %d", how, at, got, want)
				}
			case 1:
				s, m = s.Clone(), m.copied()
			case 2:
				both(t, s, m, some(chance, someKeys(), -1, last+1))
			default:
				last += chance.Intn(2)
				both(t, s, m, some(chance, someKeys(), last, last+1))
			}
			if step%10 == 9 {
				whole(t, s, m, last, how)
			}
		}
	}
}

// In a store with many keys all of them are told, in order.
func TestVN1VN2ManyKeys(t *testing.T) {
	var keys []string
	for i := range 400 {
		keys = append(keys, fmt.Sprintf("%03d", i))
	}
	ranges := []cursor.Range{{}, cursor.Prefix("1"), {From: "050", To: "377", HasFrom: true, HasTo: true, OpenTo: true}, cursor.One("399")}
	chance := rand.New(rand.NewSource(1))
	s, m := version.New(), &told{}
	for at := 1; at <= 4; at++ {
		for _, i := range chance.Perm(len(keys)) {
			if chance.Intn(3) > 0 {
				both(t, s, m, laid{keys[i], at, fmt.Sprint(at), chance.Intn(3) == 0})
			}
		}
	}
	holds(t, s, m, keys, ranges, []int{0, 1, 2, 3, 4, 5}, "many keys")
	for at := range 6 {
		if got, want := s.Prune(at), m.prune(at); got != want {
			t.Fatalf("Prune(%d): %d, not %d", at, got, want)
		}
		holds(t, s, m, keys, ranges, []int{0, 1, 2, 3, 4, 5}, fmt.Sprintf("many keys, Prune(%d)", at))
	}
}

// seen is all that is seen as of a commit.
func seen(s *version.Store, at int) string {
	var out []string
	for _, k := range someKeys() {
		row, is := s.Get(k, at)
		out = append(out, fmt.Sprintf("%q %v", row, is))
	}
	for _, r := range someRanges() {
		out = append(out, fmt.Sprintf("%q", pairs(s.Range(r, at))))
	}
	return strings.Join(append(out, fmt.Sprint(s.Count(at))), ", ")
}

// What is seen as of a commit stays, whatever greater commits put, and whatever is pruned that is not above it.
func TestVN3WhatIsSeenStays(t *testing.T) {
	for seed := range int64(40) {
		chance := rand.New(rand.NewSource(seed))
		s := version.New()
		for at := 1; at <= 6; at++ {
			for range 4 {
				v := some(chance, someKeys(), at, at)
				if err := s.Put(v.key, v.at, []byte(v.row), v.gone); err != nil {
					t.Fatal(err)
				}
			}
		}
		for at := 0; at <= 7; at++ {
			apart := s.Clone()
			want := seen(apart, at)
			for range 20 {
				if chance.Intn(4) == 0 {
					apart.Prune(chance.Intn(at+2) - 1)
				} else {
					v := some(chance, someKeys(), at+1, at+5)
					apart.Put(v.key, v.at, []byte(v.row), v.gone)
				}
				if got := seen(apart, at); got != want {
					t.Fatalf("seed %d: as of %d: %s, not %s", seed, at, got, want)
				}
			}
			apart.Prune(at)
			for later := at; later <= 12; later++ {
				before := apart.Clone()
				apart.Prune(at)
				if seen(apart, later) != seen(before, later) {
					t.Fatalf("seed %d: as of %d behind Prune(%d)", seed, later, at)
				}
			}
		}
	}
}

// Behind Prune of a commit, what is seen as of it and of all later ones is what was seen ahead of it.
func TestVN3PruneOfEachCommit(t *testing.T) {
	l := []laid{
		{"", 1, "x", false}, {"a", 1, "x", false}, {"ab", 2, "", true}, {"b", 2, "x", false}, {"a", 3, "", true},
		{"b", 4, "", true}, {"a", 5, "y", false}, {"ab", 5, "z", false}, {"\xff", 6, "", true}}
	for pruned := -1; pruned <= 8; pruned++ {
		s, _ := made(t, l...)
		apart := s.Clone()
		apart.Prune(pruned)
		for at := max(pruned, 0); at <= 8; at++ {
			if got, want := seen(apart, at), seen(s, at); got != want {
				t.Errorf("Prune(%d): as of %d: %s, not %s", pruned, at, got, want)
			}
		}
	}
}

func TestVN3Nil(t *testing.T) {
	var s *version.Store
	for _, v := range []laid{{"a", 1, "x", false}, {"a", 1, "", true}, {"", 0, "x", false}, {"a", math.MaxInt, "", false}, {"a", math.MinInt, "", true}} {
		if err := s.Put(v.key, v.at, []byte(v.row), v.gone); err != api.ErrArg {
			t.Errorf("Put%v: %v", v, err)
		}
	}
	whole(t, s, &told{}, 3, "a nil store")
	for _, at := range upTo(3) {
		if got := s.Prune(at); got != 0 {
			t.Errorf("Prune(%d): %d", at, got)
		}
	}
	clone := s.Clone()
	whole(t, clone, &told{}, 3, "the clone of a nil store")
	if got := clone.Prune(3); got != 0 {
		t.Errorf("Prune of the clone: %d", got)
	}
}

func TestVN3CloneOfNone(t *testing.T) {
	var none *version.Store
	for name, s := range map[string]*version.Store{"new": version.New(), "nil": none} {
		clone, m := s.Clone(), &told{}
		both(t, clone, m, laid{"a", 1, "x", false})
		whole(t, clone, m, 2, "the clone of a store that is "+name)
		whole(t, s, &told{}, 2, "a store that is "+name)
	}
}

// Behind a Clone either one goes on alone: what is put to one, or pruned of it, the other one does not tell.
func TestVN3Clone(t *testing.T) {
	l := []laid{{"a", 1, "x", false}, {"b", 1, "x", false}, {"a", 2, "y", false}, {"b", 2, "", true}, {"ab", 3, "z", false}}
	for name, change := range map[string]func(s *version.Store, m *told){
		"put in place":          func(s *version.Store, m *told) { both(t, s, m, laid{"a", 2, "other", false}) },
		"put gone in place":     func(s *version.Store, m *told) { both(t, s, m, laid{"ab", 3, "", true}) },
		"put a row in place":    func(s *version.Store, m *told) { both(t, s, m, laid{"b", 2, "again", false}) },
		"put behind":            func(s *version.Store, m *told) { both(t, s, m, laid{"a", 4, "other", false}) },
		"put a key":             func(s *version.Store, m *told) { both(t, s, m, laid{"c", 1, "other", false}) },
		"put that is refused":   func(s *version.Store, m *told) { both(t, s, m, laid{"a", 1, "other", false}) },
		"prune at a commit":     func(s *version.Store, m *told) { s.Prune(2); m.prune(2) },
		"prune behind all":      func(s *version.Store, m *told) { s.Prune(9); m.prune(9) },
		"prune, and put behind": func(s *version.Store, m *told) { s.Prune(2); m.prune(2); both(t, s, m, laid{"b", 1, "new", false}) },
	} {
		for _, cloneChanges := range []bool{false, true} {
			s, m := made(t, l...)
			clone := s.Clone()
			changed, stays := s, clone
			if cloneChanges {
				changed, stays = clone, s
			}
			other := m.copied()
			change(changed, other)
			how := fmt.Sprintf("%s, of the clone: %v", name, cloneChanges)
			whole(t, changed, other, 4, how)
			whole(t, stays, m, 4, how+", beside it")
			change(stays, m)
			whole(t, stays, m, 4, how+", both")
			whole(t, changed, other, 4, how+", both, beside it")
		}
	}
}

// Both go on at once from one begin, many commits long, and a clone of the clone too.
func TestVN3ClonesGoOnApart(t *testing.T) {
	for ahead := range 12 {
		s, m := version.New(), &told{}
		for at := 1; at <= ahead; at++ {
			both(t, s, m, laid{"a", at, fmt.Sprint(at), false})
		}
		stores, words := []*version.Store{s, s.Clone()}, []*told{m, m.copied()}
		stores, words = append(stores, stores[1].Clone()), append(words, m.copied())
		for at := ahead + 1; at <= ahead+12; at++ {
			for i := range stores {
				both(t, stores[i], words[i], laid{"a", at, fmt.Sprintf("%d of %d", at, i), (at+i)%4 == 0})
			}
			stores[at%3].Prune(at - 3)
			words[at%3].prune(at - 3)
			for i := range stores {
				holds(t, stores[i], words[i], []string{"a"}, []cursor.Range{{}}, upTo(at), fmt.Sprintf("%d ahead, the store %d at %d", ahead, i, at))
			}
		}
	}
}

// scribble writes over all of a row, its spare room too.
func scribble(row []byte) {
	row = row[:cap(row)]
	for i := range row {
		row[i] = '#'
	}
}

func TestVN3RowsHandedIn(t *testing.T) {
	s, m := version.New(), &told{}
	room := make([]byte, 4, 64)
	put := func(key string, at int, row string, gone bool) {
		t.Helper()
		in := append(room[:0], row...)
		if err := s.Put(key, at, in, gone); err != nil {
			t.Fatal(err)
		}
		if string(in) != row {
			t.Fatalf("Put changed its row to %q", in)
		}
		m.put(laid{key, at, row, gone})
		scribble(in)
	}
	put("a", 1, "abcd", false)
	put("b", 1, "", false)
	put("a", 2, "efghij", false)
	put("a", 2, "kl", false)
	clone := s.Clone()
	put("ab", 3, "mn", false)
	m.all = slices.DeleteFunc(m.all, func(v laid) bool { return v.key == "ab" })
	whole(t, clone, m, 3, "a clone")
	m.put(laid{"ab", 3, "mn", false})
	whole(t, s, m, 3, "rows written over behind Put")
}

func TestVN3RowsHandedOut(t *testing.T) {
	s, m := made(t, laid{"a", 1, "abcd", false}, laid{"b", 1, "", false}, laid{"a", 2, "efghij", false}, laid{"ab", 2, "k", false}, laid{"b", 3, "", true})
	clone := s.Clone()
	for _, x := range []*version.Store{s, clone} {
		for at := range 5 {
			for _, k := range someKeys() {
				row, _ := x.Get(k, at)
				scribble(row)
			}
			l := x.Range(cursor.Range{}, at)
			for i := range l {
				scribble(l[i].Row)
				l[i].Key = "#"
			}
			l = l[:cap(l)]
			for i := range l {
				l[i] = version.Item{Key: "#", Row: []byte("#")}
			}
		}
		whole(t, s, m, 3, "rows written over behind Get and Range")
		whole(t, clone, m, 3, "rows written over, the clone")
	}
}

// No two rows of one answer, nor of two answers, share memory, spare room too, nor does one share it with what was handed in.
func TestVN3AnswersShareNothing(t *testing.T) {
	one := []byte("the same row")
	s := version.New()
	for i, k := range someKeys() {
		if err := s.Put(k, 1+i%2, one, false); err != nil {
			t.Fatal(err)
		}
	}
	want := string(one)
	var rows [][]byte
	for range 2 {
		for _, x := range s.Range(cursor.Range{}, 2) {
			rows = append(rows, x.Row)
		}
		row, _ := s.Get("a", 2)
		rows = append(rows, row)
	}
	rows = append(rows, one)
	if len(rows) != 2*(len(someKeys())+1)+1 {
		t.Fatalf("%d rows", len(rows))
	}
	for i, row := range rows {
		if string(row) != want {
			t.Fatalf("row %d: %q", i, row)
		}
		scribble(row)
	}
	for _, k := range someKeys() {
		gets(t, s, k, 2, want, true, "behind all")
	}
}

// What was handed out stays as it was, whatever the store does then.
func TestVN3WhatWasHandedOutStays(t *testing.T) {
	s, _ := made(t, laid{"a", 1, "first", false}, laid{"b", 1, "other", false})
	row, _ := s.Get("a", 1)
	l := s.Range(cursor.Range{}, 1)
	for _, v := range []laid{{"a", 1, "again", false}, {"a", 1, "", true}, {"b", 2, "later", false}, {"a", 3, "", true}} {
		if err := s.Put(v.key, v.at, []byte(v.row), v.gone); err != nil {
			t.Fatal(err)
		}
		s.Prune(v.at)
	}
	if got := pairs(l); string(row) != "first" || !slices.Equal(got, []pair{{"a", "first"}, {"b", "other"}}) {
		t.Errorf("%q, %q", row, got)
	}
}

// A row may have any bytes, as a key may.
func TestVN1AnyBytes(t *testing.T) {
	var every []byte
	for i := range 256 {
		every = append(every, byte(i))
	}
	s, m := version.New(), &told{}
	var keys []string
	for i := range 256 {
		k := string(every[i : i+1])
		keys = append(keys, k)
		both(t, s, m, laid{k, 1 + i%3, string(every[i:]), i%5 == 0})
	}
	both(t, s, m, laid{string(every), 1, strings.Repeat("\x00", api.MaxBlob), false})
	keys = append(keys, string(every))
	holds(t, s, m, keys, []cursor.Range{{}, cursor.Prefix("\x00"), cursor.Prefix("\xff")}, []int{0, 1, 2, 3}, "any bytes")
}

// A key may have many versions: each is found without going through the others.
func TestVN1VN2LongChain(t *testing.T) {
	const n = 1 << 17
	s := version.New()
	for i := 1; i <= n; i++ {
		if err := s.Put("a", 2*i, []byte{byte(i), byte(i >> 8)}, i%7 == 0); err != nil {
			t.Fatal(err)
		}
	}
	look := func(from int) {
		t.Helper()
		for at := 2 * from; at <= 2*n+1; at++ {
			i := at / 2
			row, is := s.Get("a", at)
			if is != (i%7 != 0) || is && (row[0] != byte(i) || row[1] != byte(i>>8)) {
				t.Fatalf("as of %d: %v, %v", at, row, is)
			}
		}
	}
	look(1)
	for _, from := range []int{2, n / 2, n - 1} {
		want := s.Versions() - (n - from + 1)
		if got := s.Prune(2 * from); got != want {
			t.Fatalf("Prune(%d): %d, not %d", 2*from, got, want)
		}
		look(from)
	}
}

// A store may have many keys.
func TestVN1VN2GreatStore(t *testing.T) {
	const n = 1 << 16
	s := version.New()
	for i := range n {
		k := fmt.Sprintf("%05x", i*7919%n)
		if err := s.Put(k, 1, []byte(k), false); err != nil {
			t.Fatal(err)
		}
	}
	for i := 0; i < n; i += 2 {
		if err := s.Put(fmt.Sprintf("%05x", i), 2, nil, true); err != nil {
			t.Fatal(err)
		}
	}
	for at, want := range []int{0, n, n / 2, n / 2} {
		l := s.Range(cursor.Range{}, at)
		if len(l) != want || s.Count(at) != want {
			t.Fatalf("as of %d: %d, Count: %d, not %d", at, len(l), s.Count(at), want)
		}
		for i, x := range l {
			if k := fmt.Sprintf("%05x", i*n/want+at/2); x.Key != k || string(x.Row) != k {
				t.Fatalf("as of %d: %d: %q", at, i, x)
			}
		}
	}
	if s.Changed(cursor.One("00001"), 1) || !s.Changed(cursor.One("00002"), 1) {
		t.Error("Changed")
	}
	if got := s.Prune(1); got != 0 || s.Versions() != n+n/2 {
		t.Errorf("Prune(1): %d, Versions: %d", got, s.Versions())
	}
	if got := s.Prune(2); got != n || s.Versions() != n/2 {
		t.Errorf("Prune(2): %d, Versions: %d", got, s.Versions())
	}
}

// What a store tells hangs on what was done to it alone: twice the same tells the same.
func TestP7SameAgain(t *testing.T) {
	run := func() string {
		chance := rand.New(rand.NewSource(7))
		s := version.New()
		var out []string
		for i := range 300 {
			v := some(chance, someKeys(), i/20, i/20+1)
			out = append(out, fmt.Sprint(s.Put(v.key, v.at, []byte(v.row), v.gone)))
			if i%40 == 39 {
				out = append(out, fmt.Sprint(s.Prune(i/25)))
			}
			out = append(out, seen(s, i/22), fmt.Sprint(s.Versions(), s.Changed(cursor.Prefix("a"), i/20)))
		}
		return strings.Join(out, "\n")
	}
	if run() != run() {
		t.Error("told otherwise")
	}
}

// Calls that ask write nothing, and Clone reads alone: they tell the same beside one another.
func TestP7Alone(t *testing.T) {
	s, m := made(t, laid{"a", 1, "x", false}, laid{"b", 1, "y", false}, laid{"a", 2, "z", false}, laid{"b", 3, "", true}, laid{"ab", 4, "w", false})
	ask := func(s *version.Store) string {
		var out []string
		for at := range 6 {
			out = append(out, seen(s, at), fmt.Sprint(s.Changed(cursor.Prefix("a"), at), s.Versions()))
		}
		return strings.Join(out, "\n")
	}
	want := ask(s)
	var work sync.WaitGroup
	for range 8 {
		work.Go(func() {
			for range 10 {
				clone := s.Clone()
				if ask(s) != want || ask(clone) != want {
					t.Error("told otherwise")
				}
				clone.Put("a", 9, nil, true)
				clone.Prune(9)
			}
		})
	}
	work.Wait()
	whole(t, s, m, 4, "behind all")
}

// FuzzVersion reads a run: of each three bytes what is done, of which key, by which commit.
func FuzzVersion(f *testing.F) {
	f.Add([]byte(""))
	f.Add([]byte("\x00\x02\x01\x01\x02\x03\x02\x00\x03"))
	f.Add([]byte("\x00\x00\x05\x00\x00\x04\x01\x01\x02\x00\x01\x06\x03\x00\x00\x02\x00\x05\x00\x01\x02"))
	f.Fuzz(func(t *testing.T, b []byte) {
		keys, ranges := someKeys(), someRanges()
		s, m := version.New(), &told{}
		was, wm := s.Clone(), m.copied()
		for ; len(b) >= 3; b = b[3:] {
			key, at := keys[int(b[1])%len(keys)], int(int8(b[2]))
			switch b[0] % 4 {
			case 0:
				both(t, s, m, laid{key, at, string(b[:3]), false})
			case 1:
				both(t, s, m, laid{key, at, "", true})
			case 2:
				if got, want := s.Prune(at), m.prune(at); got != want {
					t.Fatalf("Prune(%d): %d, not %d", at, got, want)
				}
			case 3:
				holds(t, was, wm, keys, ranges[:4], []int{0, at, at + 1}, "the clone ahead")
				was, wm = s.Clone(), m.copied()
			}
			holds(t, s, m, keys, ranges[:12], []int{at - 1, at, at + 1}, "the run")
		}
		holds(t, was, wm, keys, ranges, []int{-1, 0, 1, 127}, "the clone at the end")
		holds(t, s, m, keys, ranges, []int{-1, 0, 1, 127}, "the end")
	})
}
