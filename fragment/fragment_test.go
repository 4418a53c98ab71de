package fragment_test

import (
	"fmt"
	"math"
	"math/rand"
	"slices"
	"strings"
	"sync"
	"testing"

	"barbican/api"
	"barbican/cursor"
	"barbican/fragment"
	"barbican/label"
	"barbican/lattice"
	"barbican/table"
)

// diamond has one label below all, two of which neither dominates the other, and one above all; in upside the one above all has the least place.
const (
	diamond = "0 1:a 1:b 2:ab"
	upside  = "2:ab 1:b 0 1:a"
)

// noPlaces are no places of n labels.
func noPlaces(n int) []int { return []int{-1, n, n + 1, math.MinInt, math.MaxInt} }

// wrongSnaps are no snapshots of four labels.
func wrongSnaps() [][]int {
	return [][]int{
		nil, {}, {0}, {0, 0, 0}, {0, 0, 0, 0, 0}, slices.Repeat([]int{1}, 40),
		{-1, 0, 0, 0}, {0, -1, 0, 0}, {0, 0, math.MinInt, 0}, {9, 9, 9, -1}, {-1, -1, -1, -1}, {-1, 0, 0},
	}
}

// few is a store of the diamond with some rows at all labels, of which some went.
func few(t testing.TB, texts string) (*fragment.Store, *told) {
	t.Helper()
	s, m := made(t, texts)
	both(t, s, m, 0, putT(1, "a"), putT(2, "b"), put("pair", text("a"), truth(true), num(0)))
	both(t, s, m, 1, putT(1, "c"), putT(3, "d"), put("yes", truth(true)))
	both(t, s, m, 2, putT(2, "e"), put("pair", text("a"), truth(false), num(1)))
	both(t, s, m, 3, putT(1, "f"), putT(4, "g"), put("pair", text("b"), truth(false), num(0)))
	both(t, s, m, 0, goneT(2), putT(1, "h"), put("yes", truth(false)))
	both(t, s, m, 1, goneT(1))
	both(t, s, m, 0, putT(2, "i"), goneT(1))
	both(t, s, m, 3, gone("pair", text("b"), num(0)), putT(4, "j"))
	return s, m
}

func TestFG1FG2Examples(t *testing.T) {
	s, m := made(t, "0 1")
	both(t, s, m, 0, putT(1, "a"))
	both(t, s, m, 1, putT(1, "b"))
	for at, want := range []string{"0(1, 'a')", "0(1, 'a') 1(1, 'b')"} {
		if l, err := s.View(at, s.Now(), "t", cursor.Range{}); line(l) != want || err != nil {
			t.Errorf("View(%d): %s, %v", at, line(l), err)
		}
	}
	whole(t, s, m, "the example")
}

func TestFG1New(t *testing.T) {
	var none *lattice.Lattice
	var noTables *table.Catalog
	x := latticeOf(t, diamond)
	for _, c := range []*table.Catalog{noTables, new(table.Catalog), catalogOf(t), catalogOf(t, someTables()...)} {
		for _, x := range []*lattice.Lattice{none, new(lattice.Lattice)} {
			if s, err := fragment.New(x, c); s != nil || err != api.ErrArg {
				t.Errorf("New without labels, of %d tables: %v, %v", c.Len(), s, err)
			}
		}
		s, err := fragment.New(x, c)
		if s == nil || err != nil {
			t.Errorf("New of %d tables: %v, %v", c.Len(), s, err)
		}
	}
	for _, texts := range []string{"0", "15:abcdefghijklmnopqrstuvwxyz", "0 1", diamond, upside, "0 1 2 3 4 5 6 7 8 9 10 11 12 13 14 15"} {
		s, m := made(t, texts)
		whole(t, s, m, "new, of "+texts)
	}
}

// Without tables there are commits, but no rows.
func TestFG1NewWithoutTables(t *testing.T) {
	var noTables *table.Catalog
	for _, c := range []*table.Catalog{noTables, new(table.Catalog), catalogOf(t)} {
		s, err := fragment.New(latticeOf(t, "0 1"), c)
		if err != nil {
			t.Fatal(err)
		}
		for _, w := range []api.Write{putT(1, "a"), goneT(1), {}, {Gone: true}} {
			if err := s.Check(w); err != api.ErrName {
				t.Errorf("Check(%v): %v", w, err)
			}
			if err := s.Apply(1, []api.Write{w}); err != api.ErrName {
				t.Errorf("Apply(%v): %v", w, err)
			}
		}
		if err := s.Apply(1, nil); err != nil {
			t.Error(err)
		}
		if got := s.Now(); !slices.Equal(got, []int{0, 1}) {
			t.Errorf("Now: %v", got)
		}
		if l, err := s.View(1, s.Now(), "t", cursor.Range{}); l != nil || err != api.ErrName {
			t.Errorf("View: %v, %v", l, err)
		}
		if l, is, err := s.Own(1, s.Now(), "", ""); l != nil || is || err != api.ErrName {
			t.Errorf("Own: %v, %v, %v", l, is, err)
		}
		if is, err := s.Changed(1, s.Now(), "t", cursor.Range{}); is || err != api.ErrName {
			t.Errorf("Changed: %v, %v", is, err)
		}
		if s.Rows(1) != 0 || s.Prune(s.Now()) != 0 || s.Clone().Commits(1) != 1 {
			t.Error("rows without tables")
		}
	}
}

// New goes on without what it was handed: both may be written over.
func TestFG1NewKeepsNothing(t *testing.T) {
	x, c := latticeOf(t, "0 1"), catalogOf(t, someTables()...)
	s, err := fragment.New(x, c)
	if err != nil {
		t.Fatal(err)
	}
	*x, *c = *latticeOf(t, "0:a 0:b 0:c"), table.Catalog{}
	if err := s.Apply(0, []api.Write{putT(1, "a")}); err != nil {
		t.Error(err)
	}
	if l, err := s.View(1, s.Now(), "t", cursor.Range{}); line(l) != "0(1, 'a')" || err != nil {
		t.Errorf("View: %s, %v", line(l), err)
	}
}

func TestFG1Check(t *testing.T) {
	long := text(strings.Repeat("a", api.MaxText+1))
	for _, c := range []struct {
		w    api.Write
		want error
	}{
		{putT(1, "a"), nil},
		{put("t", num(math.MinInt), null()), nil},
		{put("t", num(1), text(strings.Repeat("~", api.MaxText))), nil},
		{put("pair", text(""), truth(false), num(0)), nil},
		{put("yes", truth(true)), nil},
		{goneT(1), nil},
		{gone("pair", text("a"), num(1)), nil},
		{gone("yes", truth(false)), nil},
		// No such table, whatever stands in the row.
		{put("u", num(1), text("a")), api.ErrName},
		{put("", num(1), text("a")), api.ErrName},
		{put("T", num(1), text("a")), api.ErrName},
		{put("t ", num(1), text("a")), api.ErrName},
		{put("select"), api.ErrName},
		{put("u", long), api.ErrName},
		{gone("u", num(1)), api.ErrName},
		{gone("tt"), api.ErrName},
		{gone("", api.Value{Kind: 9}), api.ErrName},
		{api.Write{}, api.ErrName},
		// Rows of another length: that is told first.
		{put("t"), api.ErrArg},
		{put("t", num(1)), api.ErrArg},
		{put("t", long), api.ErrArg},
		{put("t", num(1), text("a"), null()), api.ErrArg},
		{put("pair", text("a"), num(1)), api.ErrArg},
		{put("yes"), api.ErrArg},
		{gone("t"), api.ErrArg},
		{gone("t", num(1), text("a")), api.ErrArg},
		{gone("t", long, long), api.ErrArg},
		{gone("pair", text("a"), truth(true), num(1)), api.ErrArg},
		{gone("pair", text("a")), api.ErrArg},
		{gone("yes", truth(true), truth(true)), api.ErrArg},
		// Values that may not be, and such as may not stand there.
		{put("t", num(1), long), api.ErrLong},
		{put("t", num(1), text("\n")), api.ErrForm},
		{put("t", api.Value{Kind: 4}, text("a")), api.ErrForm},
		{put("t", api.Value{Kind: api.KindInt, Bool: true}, text("a")), api.ErrForm},
		{put("t", text("1"), text("a")), api.ErrKind},
		{put("t", num(1), num(1)), api.ErrKind},
		{put("t", null(), text("a")), api.ErrNull},
		{put("pair", text("a"), null(), num(1)), api.ErrNull},
		{put("pair", text("a"), num(0), null()), api.ErrKind},
		{put("pair", text("a"), null(), text("b")), api.ErrNull},
		{put("pair", null(), long, num(1)), api.ErrNull},
		{put("pair", num(1), null(), long), api.ErrKind},
		{put("yes", num(1)), api.ErrKind},
		{gone("t", null()), api.ErrKind},
		{gone("t", text("1")), api.ErrKind},
		{gone("t", api.Value{Int: 1}), api.ErrForm},
		{gone("pair", long, num(1)), api.ErrLong},
		{gone("pair", text("a"), truth(true)), api.ErrKind},
		{gone("pair", null(), long), api.ErrKind},
		{gone("pair", text("\x7f"), null()), api.ErrForm},
		{gone("yes", long), api.ErrLong},
	} {
		s, m := made(t, diamond)
		for range 2 {
			if got, words := s.Check(c.w), m.check(c.w); got != c.want || words != c.want {
				t.Errorf("Check(%v): %v, by the words %v, not %v", c.w, got, words, c.want)
			}
			counts(t, s, m, "behind Check")
			// Check asks for the same, whatever rows are there.
			both(t, s, m, 0, putT(1, "a"), put("yes", truth(true)))
			both(t, s, m, 3, putT(1, "b"), goneT(1))
		}
		// Apply answers the same of the one alone, and is a commit just where it can be.
		before := s.Commits(3)
		if got := s.Apply(3, []api.Write{c.w}); got != c.want {
			t.Errorf("Apply(%v): %v, not %v", c.w, got, c.want)
		}
		if took := s.Commits(3) - before; took == 1 != (c.want == nil) {
			t.Errorf("Apply(%v): %d commits", c.w, took)
		}
	}
}

// There is no such label: that is told ahead of the writes' errors.
func TestFG1ApplyAtNoLabel(t *testing.T) {
	s, m := few(t, diamond)
	for _, at := range noPlaces(4) {
		for _, l := range [][]api.Write{nil, {}, {putT(1, "a")}, {putT(1, "a"), {}}, {gone("u")}, {put("t")}} {
			if err := s.Apply(at, l); err != api.ErrArg {
				t.Errorf("Apply(%d, %v): %v", at, l, err)
			}
			whole(t, s, m, fmt.Sprintf("behind Apply(%d, %v)", at, l))
		}
	}
}

// Of several writes of which one can't be none is done, and it is no commit.
func TestFG1ApplyWithWrongOnes(t *testing.T) {
	name, form, null, arg := put("u", num(1)), put("t", num(1), text("\n")), put("t", null(), null()), gone("t")
	right := []api.Write{putT(1, "new"), putT(9, "new"), goneT(2), put("yes", truth(true))}
	with := func(at int, w ...api.Write) []api.Write { return slices.Insert(slices.Clone(right), at, w...) }
	for _, c := range []struct {
		l    []api.Write
		want error
	}{
		{[]api.Write{name}, api.ErrName},
		{with(0, name), api.ErrName},
		{with(2, form), api.ErrForm},
		{with(4, null), api.ErrNull},
		{with(1, arg), api.ErrArg},
		{with(0, null, name), api.ErrNull},
		{with(2, name, null), api.ErrName},
		{with(3, form, arg), api.ErrForm},
		{with(4, arg, form, name), api.ErrArg},
		{append(with(0, form), arg), api.ErrForm},
		{append(with(0, arg), form), api.ErrArg},
		{append(with(1, null), null), api.ErrNull},
	} {
		s, m := few(t, diamond)
		for range 2 {
			for at := range 4 {
				if got := s.Apply(at, c.l); got != c.want {
					t.Errorf("Apply(%d, %v): %v, not %v", at, c.l, got, c.want)
				}
			}
			whole(t, s, m, fmt.Sprintf("behind Apply(%v)", c.l))
		}
		both(t, s, m, 1, right...)
		whole(t, s, m, fmt.Sprintf("behind Apply(%v), and one that can be", c.l))
	}
}

// Without writes it is a commit all the same.
func TestFG1ApplyNothing(t *testing.T) {
	s, m := few(t, diamond)
	for i, l := range [][]api.Write{nil, {}, make([]api.Write, 0, 3)} {
		for at := range 4 {
			both(t, s, m, at, l...)
			if err := s.Apply(at, l); err != nil {
				t.Errorf("Apply(%d, nothing): %v", at, err)
			}
			m.commits[at]++
		}
		whole(t, s, m, fmt.Sprintf("%d commits of nothing", i+1))
	}
	both(t, s, m, 2, putT(1, "behind"))
	whole(t, s, m, "a commit behind those of nothing")
	empty, words := made(t, "0")
	both(t, empty, words, 0)
	whole(t, empty, words, "the first commit, of nothing")
}

// Of one key the last write of a commit is what is told, whatever was there.
func TestFG1ApplyTheSameKeyAgain(t *testing.T) {
	kinds := []api.Write{putT(1, "x"), putT(1, "y"), put("t", num(1), null()), goneT(1)}
	ahead := map[string][][]api.Write{"nothing": nil, "a row": {{putT(1, "old")}}, "one that went": {{putT(1, "old")}, {goneT(1)}}}
	for name, before := range ahead {
		for _, first := range kinds {
			for _, second := range kinds {
				for _, third := range append([]api.Write{putT(2, "other")}, kinds...) {
					s, m := made(t, "1 0")
					for _, l := range before {
						both(t, s, m, 0, l...)
					}
					both(t, s, m, 0, first, putT(0, "beside"), second, third)
					how := fmt.Sprintf("behind %s %v, %v and %v", name, first, second, third)
					whole(t, s, m, how)
					both(t, s, m, 0, second)
					both(t, s, m, 1, first, third)
					whole(t, s, m, how+", and once more")
				}
			}
		}
	}
}

func TestFG1ApplyInPlaceAndGone(t *testing.T) {
	s, m := made(t, diamond)
	all := func(at int) string {
		l, err := s.View(at, s.Now(), "t", cursor.Range{})
		if err != nil {
			t.Fatal(err)
		}
		return line(l)
	}
	for _, c := range []struct {
		at   int
		w    []api.Write
		want string // what is seen at 3
		rows []int
	}{
		{0, []api.Write{putT(1, "a"), putT(2, "b")}, "0(1, 'a') 0(2, 'b')", []int{2, 0, 0, 0}},
		{0, []api.Write{putT(1, "c")}, "0(1, 'c') 0(2, 'b')", []int{2, 0, 0, 0}},
		{1, []api.Write{putT(1, "d")}, "0(1, 'c') 1(1, 'd') 0(2, 'b')", []int{2, 1, 0, 0}},
		{1, []api.Write{goneT(2)}, "0(1, 'c') 1(1, 'd') 0(2, 'b')", []int{2, 1, 0, 0}},
		{3, []api.Write{goneT(1), goneT(7)}, "0(1, 'c') 1(1, 'd') 0(2, 'b')", []int{2, 1, 0, 0}},
		{0, []api.Write{goneT(1)}, "1(1, 'd') 0(2, 'b')", []int{1, 1, 0, 0}},
		{0, []api.Write{goneT(1)}, "1(1, 'd') 0(2, 'b')", []int{1, 1, 0, 0}},
		{2, []api.Write{putT(2, "e"), putT(0, "f")}, "2(0, 'f') 1(1, 'd') 0(2, 'b') 2(2, 'e')", []int{1, 1, 2, 0}},
		{0, []api.Write{put("t", num(1), null())}, "2(0, 'f') 0(1, NULL) 1(1, 'd') 0(2, 'b') 2(2, 'e')", []int{2, 1, 2, 0}},
		{2, []api.Write{goneT(0), goneT(2), putT(-5, "g")}, "2(-5, 'g') 0(1, NULL) 1(1, 'd') 0(2, 'b')", []int{2, 1, 1, 0}},
	} {
		both(t, s, m, c.at, c.w...)
		if got := all(3); got != c.want {
			t.Fatalf("behind Apply(%d, %v): %s, not %s", c.at, c.w, got, c.want)
		}
		for at, want := range c.rows {
			if got := s.Rows(at); got != want {
				t.Fatalf("behind Apply(%d, %v): Rows(%d): %d, not %d", c.at, c.w, at, got, want)
			}
		}
		whole(t, s, m, fmt.Sprintf("behind Apply(%d, %v)", c.at, c.w))
	}
}

func TestFG1CommitsAndNow(t *testing.T) {
	s, m := made(t, diamond)
	want := []int{0, 0, 0, 0}
	for i, at := range []int{2, 2, 0, 3, 2, 1, 1, 0, 2} {
		counts(t, s, m, fmt.Sprint(i))
		both(t, s, m, at, putT(i, "a"))
		want[at]++
		if got := s.Now(); !slices.Equal(got, want) {
			t.Fatalf("Now: %v, not %v", got, want)
		}
		if got := s.Commits(at); got != want[at] {
			t.Fatalf("Commits(%d): %d, not %d", at, got, want[at])
		}
	}
	for _, at := range noPlaces(4) {
		if got := s.Commits(at); got != 0 {
			t.Errorf("Commits(%d): %d", at, got)
		}
	}
}

// Each error of View, Own and Changed: no label or no snapshot ahead of no table, and beside it nothing.
func TestFG2Errors(t *testing.T) {
	s, m := few(t, diamond)
	asks := func(at int, snap []int, name string, want error) {
		t.Helper()
		for _, r := range []cursor.Range{{}, cursor.One(keyT(1)), {From: "b", To: "a", HasFrom: true, HasTo: true}} {
			if l, err := s.View(at, snap, name, r); l != nil || err != want {
				t.Errorf("View(%d, %v, %q): %v, %v, not %v", at, snap, name, l, err, want)
			}
			if is, err := s.Changed(at, snap, name, r); is || err != want {
				t.Errorf("Changed(%d, %v, %q): %v, %v, not %v", at, snap, name, is, err, want)
			}
		}
		for _, k := range []string{"", keyT(1), keyT(2)} {
			if l, is, err := s.Own(at, snap, name, k); l != nil || is || err != want {
				t.Errorf("Own(%d, %v, %q): %v, %v, %v, not %v", at, snap, name, l, is, err, want)
			}
		}
	}
	for _, name := range []string{"t", "yes", "u", "", "T", "t "} {
		for _, at := range noPlaces(4) {
			asks(at, s.Now(), name, api.ErrArg)
			asks(at, nil, name, api.ErrArg)
		}
		for _, snap := range wrongSnaps() {
			for at := -1; at <= 4; at++ {
				asks(at, snap, name, api.ErrArg)
			}
		}
	}
	for _, name := range []string{"u", "", "T", "t ", "tt", "select", strings.Repeat("t", 100)} {
		for at := range 4 {
			asks(at, s.Now(), name, api.ErrName)
			asks(at, []int{0, 0, 0, 0}, name, api.ErrName)
		}
	}
	whole(t, s, m, "behind errors")
}

// Of each snapshot's number the rows as of it, also between the commits and beyond them.
func TestFG2ViewAsOf(t *testing.T) {
	s, m := made(t, "0 1 0:a")
	both(t, s, m, 0, putT(1, "a"))
	both(t, s, m, 0)
	both(t, s, m, 0, putT(1, "b"), putT(2, "c"))
	both(t, s, m, 1, putT(1, "d"))
	both(t, s, m, 0, goneT(1))
	both(t, s, m, 1, goneT(1), putT(3, "e"))
	both(t, s, m, 2, putT(1, "none of theirs"))
	for _, c := range []struct {
		snap []int
		at   int
		want string
	}{
		{[]int{0, 0, 0}, 1, ""},
		{[]int{1, 0, 0}, 1, "0(1, 'a')"},
		{[]int{2, 0, 0}, 1, "0(1, 'a')"},
		{[]int{3, 0, 5}, 1, "0(1, 'b') 0(2, 'c')"},
		{[]int{4, 0, 0}, 1, "0(2, 'c')"},
		{[]int{5, 0, 0}, 1, "0(2, 'c')"},
		{[]int{math.MaxInt, 0, 0}, 1, "0(2, 'c')"},
		{[]int{0, 1, 0}, 1, "1(1, 'd')"},
		{[]int{0, 2, 1}, 1, "1(3, 'e')"},
		{[]int{3, 1, 1}, 1, "0(1, 'b') 1(1, 'd') 0(2, 'c')"},
		{[]int{1, 9, 9}, 1, "0(1, 'a') 1(3, 'e')"},
		{[]int{4, 2, 1}, 1, "0(2, 'c') 1(3, 'e')"},
		{[]int{3, 1, 1}, 0, "0(1, 'b') 0(2, 'c')"},
		{[]int{0, 9, 9}, 0, ""},
		{[]int{3, 1, 1}, 2, "0(1, 'b') 2(1, 'none of theirs') 0(2, 'c')"},
		{[]int{0, 1, 1}, 2, "2(1, 'none of theirs')"},
	} {
		if l, err := s.View(c.at, c.snap, "t", cursor.Range{}); line(l) != c.want || err != nil {
			t.Errorf("View(%d, %v): %s, %v, not %s", c.at, c.snap, line(l), err, c.want)
		}
	}
	whole(t, s, m, "as of")
}

// Rows of one key stand by their labels' places, which need not be the order in which they dominate one another.
func TestFG2ViewOrder(t *testing.T) {
	for texts, want := range map[string][]string{
		diamond: {
			"0(1, 'p0') 0(2, 'p0')",
			"0(1, 'p0') 1(1, 'p1') 0(2, 'p0') 1(2, 'p1')",
			"0(1, 'p0') 2(1, 'p2') 0(2, 'p0') 2(2, 'p2')",
			"0(1, 'p0') 1(1, 'p1') 2(1, 'p2') 3(1, 'p3') 0(2, 'p0') 1(2, 'p1') 2(2, 'p2') 3(2, 'p3')",
		},
		upside: {
			"0(1, 'p0') 1(1, 'p1') 2(1, 'p2') 3(1, 'p3') 0(2, 'p0') 1(2, 'p1') 2(2, 'p2') 3(2, 'p3')",
			"1(1, 'p1') 2(1, 'p2') 1(2, 'p1') 2(2, 'p2')",
			"2(1, 'p2') 2(2, 'p2')",
			"2(1, 'p2') 3(1, 'p3') 2(2, 'p2') 3(2, 'p3')",
		},
	} {
		for _, first := range [][]int{{0, 1, 2, 3}, {3, 2, 1, 0}, {1, 3, 0, 2}} {
			s, m := made(t, texts)
			for _, at := range first {
				both(t, s, m, at, putT(2, fmt.Sprint("p", at)), putT(1, fmt.Sprint("p", at)))
			}
			for at := range want {
				if l, err := s.View(at, s.Now(), "t", cursor.Range{}); line(l) != want[at] || err != nil {
					t.Errorf("%s, %v: View(%d): %s, %v", texts, first, at, line(l), err)
				}
			}
		}
	}
}

// Ranges that hold all keys, some, and none; of a key of two columns too.
func TestFG2ViewRanges(t *testing.T) {
	s, m := made(t, "0 1")
	both(t, s, m, 0, putT(-1, "a"), putT(2, "b"), putT(5, "c"))
	both(t, s, m, 1, putT(2, "d"), putT(3, "e"))
	both(t, s, m, 1, put("pair", text("a"), truth(true), num(7)), put("pair", text("ab"), truth(true), num(-7)), put("pair", text("a"), truth(false), num(-1)))
	const all = "0(-1, 'a') 0(2, 'b') 1(2, 'd') 1(3, 'e') 0(5, 'c')"
	for _, c := range []struct {
		r    cursor.Range
		want string
	}{
		{cursor.Range{}, all},
		{cursor.Range{From: keyT(9), To: keyT(0), OpenFrom: true, OpenTo: true}, all},
		{cursor.Range{From: keyT(-1), To: keyT(5), HasFrom: true, HasTo: true}, all},
		{cursor.Prefix("\x02"), all},
		{cursor.Range{From: keyT(2), HasFrom: true}, "0(2, 'b') 1(2, 'd') 1(3, 'e') 0(5, 'c')"},
		{cursor.Range{From: keyT(2), HasFrom: true, OpenFrom: true}, "1(3, 'e') 0(5, 'c')"},
		{cursor.Range{To: keyT(2), HasTo: true}, "0(-1, 'a') 0(2, 'b') 1(2, 'd')"},
		{cursor.Range{To: keyT(2), HasTo: true, OpenTo: true}, "0(-1, 'a')"},
		{cursor.Range{From: keyT(-1), To: keyT(5), HasFrom: true, HasTo: true, OpenFrom: true, OpenTo: true}, "0(2, 'b') 1(2, 'd') 1(3, 'e')"},
		{cursor.One(keyT(2)), "0(2, 'b') 1(2, 'd')"},
		{cursor.One(keyT(3)), "1(3, 'e')"},
		{cursor.One(keyT(4)), ""},
		{cursor.One(""), ""},
		{cursor.Prefix("\x03"), ""},
		{cursor.Range{From: keyT(6), HasFrom: true}, ""},
		{cursor.Range{From: keyT(5), To: keyT(-1), HasFrom: true, HasTo: true}, ""},
		{cursor.Range{From: keyT(2), To: keyT(2), HasFrom: true, HasTo: true, OpenTo: true}, ""},
	} {
		if l, err := s.View(1, s.Now(), "t", c.r); line(l) != c.want || err != nil {
			t.Errorf("View(%s): %s, %v, not %s", cursor.Text(c.r), line(l), err, c.want)
		}
	}
	for _, c := range []struct {
		r    cursor.Range
		want string
	}{
		{cursor.Range{}, "1('a', FALSE, -1) 1('a', TRUE, 7) 1('ab', TRUE, -7)"},
		{cursor.Prefix("\x03a\x00"), "1('a', FALSE, -1) 1('a', TRUE, 7)"},
		{cursor.Prefix("\x03a"), "1('a', FALSE, -1) 1('a', TRUE, 7) 1('ab', TRUE, -7)"},
		{cursor.One(key("pair", text("a"), num(7))), "1('a', TRUE, 7)"},
		{cursor.One(key("pair", text("a"), num(8))), ""},
	} {
		if l, err := s.View(1, s.Now(), "pair", c.r); line(l) != c.want || err != nil {
			t.Errorf("View(%s) of pair: %s, %v, not %s", cursor.Text(c.r), line(l), err, c.want)
		}
	}
	whole(t, s, m, "ranges")
}

// A key that is there at this label, at another one alone, gone, and never there.
func TestFG2Own(t *testing.T) {
	s, m := few(t, diamond)
	for _, c := range []struct {
		at   int
		snap []int
		key  string
		want string
		is   bool
	}{
		{0, []int{1, 1, 1, 1}, keyT(1), "0(1, 'a')", true},
		{0, []int{2, 0, 0, 0}, keyT(1), "0(1, 'h')", true},
		{0, []int{3, 9, 9, 9}, keyT(1), "", false},
		{0, []int{0, 9, 9, 9}, keyT(1), "", false},
		{0, []int{2, 2, 1, 2}, keyT(2), "", false},
		{0, []int{3, 2, 1, 2}, keyT(2), "0(2, 'i')", true},
		{0, []int{3, 2, 1, 2}, keyT(3), "", false},
		{1, []int{3, 1, 1, 2}, keyT(1), "1(1, 'c')", true},
		{1, []int{1, 2, 1, 2}, keyT(1), "", false},
		{1, []int{3, 2, 1, 2}, keyT(2), "", false},
		{1, []int{0, 1, 0, 0}, keyT(3), "1(3, 'd')", true},
		{2, []int{0, 0, 1, 0}, keyT(2), "2(2, 'e')", true},
		{2, []int{9, 9, 0, 9}, keyT(2), "", false},
		{3, []int{9, 9, 9, 9}, keyT(2), "", false},
		{3, []int{9, 9, 9, 9}, keyT(3), "", false},
		{3, []int{0, 0, 0, 1}, keyT(4), "3(4, 'g')", true},
		{3, []int{0, 0, 0, math.MaxInt}, keyT(4), "3(4, 'j')", true},
		{3, []int{9, 9, 9, 9}, keyT(9), "", false},
		{3, []int{9, 9, 9, 9}, "", "", false},
		{3, []int{9, 9, 9, 9}, keyT(4) + "\x00", "", false},
		{3, []int{9, 9, 9, 9}, key("pair", text("b"), num(0)), "", false},
	} {
		l, is, err := s.Own(c.at, c.snap, "t", c.key)
		got := ""
		if is {
			got = line([]api.Row{{At: c.at, Values: l}})
		}
		if got != c.want || is != c.is || !is && l != nil || err != nil {
			t.Errorf("Own(%d, %v, %q): %v, %v, %v, not %s, %v", c.at, c.snap, c.key, l, is, err, c.want, c.is)
		}
	}
	whole(t, s, m, "own")
}

// What was put, put anew, and went behind a snapshot's number: at the label itself, below it, above it, and beside it.
func TestFG2Changed(t *testing.T) {
	for name, change := range map[string]api.Write{"put": putT(5, "new"), "put anew": putT(1, "new"), "put as it was": putT(1, "old"), "gone": goneT(1), "gone, where none was": goneT(5)} {
		k := keyT(1)
		if change.Row[0].Int == 5 {
			k = keyT(5)
		}
		for at := range 4 {
			s, m := made(t, diamond)
			for i := range 4 {
				both(t, s, m, i, putT(1, "old"), putT(2, "old"))
			}
			both(t, s, m, at, change)
			for asking := range 4 {
				below := label.Dominates(m.labels[asking], m.labels[at])
				for _, c := range []struct {
					number int
					r      cursor.Range
					want   bool
				}{
					{1, cursor.One(k), below},
					{1, cursor.Range{}, below},
					{1, cursor.Prefix("\x02"), below},
					{1, cursor.One(keyT(2)), false},
					{1, cursor.Range{From: k, HasFrom: true, OpenFrom: true}, false},
					{1, cursor.Range{To: k, HasTo: true, OpenTo: true}, false},
					{1, cursor.Range{From: k, To: k, HasFrom: true, HasTo: true, OpenTo: true}, false},
					{2, cursor.One(k), false},
					{2, cursor.Range{}, false},
					{3, cursor.Range{}, false},
					{math.MaxInt, cursor.Range{}, false},
				} {
					snap := []int{1, 1, 1, 1}
					snap[at] = c.number
					if is, err := s.Changed(asking, snap, "t", c.r); is != c.want || err != nil {
						t.Errorf("%s at %d: Changed(%d, %v, %s): %v, %v", name, at, asking, snap, cursor.Text(c.r), is, err)
					}
					if is, err := s.Changed(asking, snap, "pair", c.r); is || err != nil {
						t.Errorf("%s at %d: Changed(%d, %v, %s) of pair: %v, %v", name, at, asking, snap, cursor.Text(c.r), is, err)
					}
				}
				if is, err := s.Changed(asking, []int{0, 0, 0, 0}, "t", cursor.One(keyT(2))); !is || err != nil {
					t.Errorf("Changed(%d) since nothing: %v, %v", asking, is, err)
				}
			}
			whole(t, s, m, fmt.Sprintf("%s at %d", name, at))
		}
	}
}

func TestFG3Rows(t *testing.T) {
	s, m := made(t, diamond)
	for _, c := range []struct {
		at   int
		l    []api.Write
		want int
	}{
		{1, nil, 0},
		{1, []api.Write{putT(1, "a")}, 1},
		{1, []api.Write{putT(1, "b")}, 1},
		{1, []api.Write{put("yes", truth(true)), put("yes", truth(false)), put("pair", text(""), truth(true), num(1))}, 4},
		{1, []api.Write{goneT(1)}, 3},
		{1, []api.Write{goneT(1), goneT(2), gone("yes", truth(true))}, 2},
		{1, []api.Write{putT(1, "a"), goneT(1)}, 2},
		{1, []api.Write{gone("yes", truth(false)), put("yes", truth(false))}, 2},
		{1, []api.Write{putT(1, "a"), goneT(1), putT(1, "b"), putT(1, "c")}, 3},
		{1, []api.Write{gone("yes", truth(false)), gone("pair", text(""), num(1)), goneT(1)}, 0},
		{1, []api.Write{goneT(1)}, 0},
		{0, []api.Write{putT(1, "a"), putT(2, "a"), put("yes", truth(true))}, 3},
		{3, []api.Write{putT(1, "a"), goneT(2)}, 1},
		{2, []api.Write{goneT(1)}, 0},
	} {
		both(t, s, m, c.at, c.l...)
		if got := s.Rows(c.at); got != c.want {
			t.Errorf("behind Apply(%d, %v): %d, not %d", c.at, c.l, got, c.want)
		}
		counts(t, s, m, fmt.Sprintf("behind Apply(%d, %v)", c.at, c.l))
	}
	for _, at := range noPlaces(4) {
		if got := s.Rows(at); got != 0 {
			t.Errorf("Rows(%d): %d", at, got)
		}
	}
	// What was pruned, and what a clone does, leaves the rows.
	prunes(t, s, m, []int{99, 99, 99, 99}, "all")
	if err := s.Clone().Apply(0, []api.Write{goneT(1)}); err != nil {
		t.Error(err)
	}
	counts(t, s, m, "pruned")
}

// A snapshot of the wrong length prunes nothing.
func TestFG3PruneOfWrongLength(t *testing.T) {
	s, m := few(t, diamond)
	for _, snap := range [][]int{nil, {}, {9}, {9, 9, 9}, {9, 9, 9, 9, 9}, slices.Repeat([]int{9}, 40)} {
		if got := s.Prune(snap); got != 0 {
			t.Errorf("Prune(%v): %d", snap, got)
		}
		whole(t, s, m, fmt.Sprintf("behind Prune(%v)", snap))
	}
}

// How many went, by commits ahead of all, at each one, behind all, and of some labels alone; and once more.
func TestFG3Prune(t *testing.T) {
	const most = math.MaxInt
	for _, c := range []struct {
		snap []int
		went int
	}{
		{[]int{0, 0, 0, 0}, 0},
		{[]int{1, 1, 1, 1}, 0},
		{[]int{-1, -1, -1, math.MinInt}, 0},
		{[]int{2, 0, 0, 0}, 2},
		{[]int{3, 0, 0, 0}, 5},
		{[]int{most, 0, 0, 0}, 5},
		{[]int{0, 1, 0, 0}, 0},
		{[]int{0, 2, 0, 0}, 2},
		{[]int{0, 3, 0, 0}, 2},
		{[]int{0, 0, 1, 0}, 0},
		{[]int{0, 0, most, 0}, 0},
		{[]int{0, 0, 0, 2}, 3},
		{[]int{-7, 0, 0, 2}, 3},
		{[]int{2, 2, 0, 2}, 7},
		{[]int{3, 2, 1, 2}, 10},
		{[]int{most, most, most, most}, 10},
	} {
		s, m := few(t, diamond)
		if got, words := s.Prune(c.snap), m.prune(c.snap); got != c.went || words != c.went {
			t.Errorf("Prune(%v): %d, by the words %d, not %d", c.snap, got, words, c.went)
		}
		how := fmt.Sprintf("behind Prune(%v)", c.snap)
		whole(t, s, m, how)
		if got := s.Prune(c.snap); got != 0 {
			t.Errorf("%s once more: %d", how, got)
		}
		both(t, s, m, 0, putT(1, "anew"), goneT(2))
		both(t, s, m, 1, putT(1, "anew"))
		both(t, s, m, 3, put("pair", text("b"), truth(true), num(0)))
		whole(t, s, m, how+", and commits behind it")
		prunes(t, s, m, []int{most, most, most, most}, how)
		whole(t, s, m, how+", and all")
	}
}

// What is told with the snapshot that was pruned, and with later ones, is what was told ahead of it; Changed too.
func TestFG3WhatPruneLeaves(t *testing.T) {
	s, m := few(t, diamond)
	tells := func(s *fragment.Store, snap []int) string {
		var out []string
		for at := range 4 {
			for _, x := range m.tables {
				l, _ := s.View(at, snap, x.Name, cursor.Range{})
				is, _ := s.Changed(at, snap, x.Name, cursor.Range{})
				out = append(out, line(l), fmt.Sprint(is))
				for _, k := range someKeys(x.Name) {
					own, is, _ := s.Own(at, snap, x.Name, k)
					out = append(out, fmt.Sprint(own, is))
				}
			}
		}
		return strings.Join(out, "\n")
	}
	all := snaps(4, 3)
	for _, pruned := range all {
		apart := s.Clone()
		apart.Prune(pruned)
		for _, later := range all {
			above := true
			for i := range later {
				above = above && later[i] >= pruned[i]
			}
			if above && tells(apart, later) != tells(s, later) {
				t.Errorf("Prune(%v): with %v it is told otherwise", pruned, later)
			}
		}
	}
}

// Behind a Clone either one is applied to and pruned alone.
func TestFG3Clone(t *testing.T) {
	for name, change := range map[string]func(s *fragment.Store, m *told){
		"a row in place":        func(s *fragment.Store, m *told) { both(t, s, m, 0, putT(2, "other")) },
		"a new row":             func(s *fragment.Store, m *told) { both(t, s, m, 2, putT(9, "other")) },
		"a row that goes":       func(s *fragment.Store, m *told) { both(t, s, m, 3, goneT(4)) },
		"the first of its kind": func(s *fragment.Store, m *told) { both(t, s, m, 3, put("yes", truth(true))) },
		"nothing":               func(s *fragment.Store, m *told) { both(t, s, m, 1) },
		"prune":                 func(s *fragment.Store, m *told) { prunes(t, s, m, []int{3, 2, 1, 2}, "a clone") },
		"prune of some": func(s *fragment.Store, m *told) {
			prunes(t, s, m, []int{2, 0, 0, 9}, "a clone")
			both(t, s, m, 0, putT(1, "behind"))
		},
	} {
		for _, cloneChanges := range []bool{false, true} {
			s, m := few(t, upside)
			clone := s.Clone()
			changed, stays := s, clone
			if cloneChanges {
				changed, stays = clone, s
			}
			other := m.copied()
			change(changed, other)
			how := fmt.Sprintf("%s, of the clone: %v", name, cloneChanges)
			whole(t, changed, other, how)
			whole(t, stays, m, how+", beside it")
			change(stays, m)
			both(t, stays, m, 1, putT(1, "and more"))
			whole(t, stays, m, how+", both")
			whole(t, changed, other, how+", both, beside it")
		}
	}
}

// A clone of a store without rows, and one of a clone.
func TestFG3CloneOfClone(t *testing.T) {
	s, m := made(t, "0 1")
	stores, words := []*fragment.Store{s, s.Clone(), s.Clone().Clone()}, []*told{m, m.copied(), m.copied()}
	for step := range 6 {
		for i := range stores {
			both(t, stores[i], words[i], (step+i)%2, putT(step%3, fmt.Sprint(i)), goneT((step+i)%3))
		}
		prunes(t, stores[step%3], words[step%3], []int{step / 2, step / 2}, "a clone of a clone")
		for i := range stores {
			whole(t, stores[i], words[i], fmt.Sprintf("the store %d at %d", i, step))
		}
	}
}

// What a label sees is the same, whatever is applied and pruned at labels that it does not dominate.
func TestFG4P2NothingFromAbove(t *testing.T) {
	chance := rand.New(rand.NewSource(4))
	for _, texts := range []string{diamond, upside, "0:a 0:b 0:c", "3 2 1 0", "0 1:a 2:b 3:ab 3"} {
		for seed := range int64(12) {
			s, m := made(t, texts)
			n := len(m.labels)
			for range 12 {
				both(t, s, m, chance.Intn(n), someWrites(chance)...)
			}
			for at := range n {
				apart := s.Clone()
				snap := s.Now()
				snap[at] = chance.Intn(snap[at] + 2)
				want := all(apart, m, at, snap)
				for range 8 {
					other := chance.Intn(n)
					if label.Dominates(m.labels[at], m.labels[other]) {
						continue
					}
					if err := apart.Apply(other, someWrites(chance)); err != nil {
						t.Fatal(err)
					}
					// The numbers of such labels don't matter either.
					beside := slices.Clone(snap)
					beside[other] = chance.Intn(20)
					pruned := make([]int, n)
					pruned[other] = chance.Intn(9)
					apart.Prune(pruned)
					if got := all(apart, m, at, beside); got != want {
						t.Fatalf("%s, %d: what is seen at %d has changed behind commits at %d", texts, seed, at, other)
					}
				}
			}
		}
	}
}

// all is all that a label is told with a snapshot.
func all(s *fragment.Store, m *told, at int, snap []int) string {
	out := []string{fmt.Sprint(s.Commits(at), s.Rows(at))}
	for _, x := range m.tables {
		for _, r := range someRanges(x.Name) {
			l, err := s.View(at, snap, x.Name, r)
			is, changedErr := s.Changed(at, snap, x.Name, r)
			out = append(out, line(l), fmt.Sprint(err, is, changedErr))
		}
		for _, k := range someKeys(x.Name) {
			l, is, err := s.Own(at, snap, x.Name, k)
			out = append(out, fmt.Sprint(l, is, err))
		}
	}
	return strings.Join(out, "\n")
}

func TestFG4Nil(t *testing.T) {
	var s *fragment.Store
	for _, w := range []api.Write{putT(1, "a"), goneT(1), {}, put("t")} {
		if err := s.Check(w); err != api.ErrArg {
			t.Errorf("Check(%v): %v", w, err)
		}
	}
	for _, at := range []int{0, 1, -1, math.MaxInt, math.MinInt} {
		for _, l := range [][]api.Write{nil, {putT(1, "a")}, {{}}} {
			if err := s.Apply(at, l); err != api.ErrArg {
				t.Errorf("Apply(%d, %v): %v", at, l, err)
			}
		}
		if s.Commits(at) != 0 || s.Rows(at) != 0 {
			t.Errorf("Commits(%d): %d, Rows: %d", at, s.Commits(at), s.Rows(at))
		}
		for _, snap := range [][]int{nil, {}, {0}, {-1}, {0, 0}} {
			if l, err := s.View(at, snap, "t", cursor.Range{}); l != nil || err != api.ErrArg {
				t.Errorf("View(%d, %v): %v, %v", at, snap, l, err)
			}
			if l, is, err := s.Own(at, snap, "t", keyT(1)); l != nil || is || err != api.ErrArg {
				t.Errorf("Own(%d, %v): %v, %v, %v", at, snap, l, is, err)
			}
			if is, err := s.Changed(at, snap, "t", cursor.Range{}); is || err != api.ErrArg {
				t.Errorf("Changed(%d, %v): %v, %v", at, snap, is, err)
			}
			if got := s.Prune(snap); got != 0 {
				t.Errorf("Prune(%v): %d", snap, got)
			}
		}
	}
	if got := s.Now(); len(got) != 0 {
		t.Errorf("Now: %v", got)
	}
	if got := s.Clone(); got != nil {
		t.Errorf("Clone: %v", got)
	}
}

// someWrites are one to four that can be.
func someWrites(chance *rand.Rand) []api.Write {
	var out []api.Write
	for range 1 + chance.Intn(4) {
		out = append(out, someWrite(chance))
	}
	return out
}

// someWrite is one that can be.
func someWrite(chance *rand.Rand) api.Write {
	n := chance.Intn(6) - 1
	switch a := text(string("ab"[chance.Intn(2)])); chance.Intn(8) {
	case 0:
		return put("pair", a, truth(n > 1), num(n&1))
	case 1:
		return gone("pair", a, num(n&1))
	case 2:
		return put("yes", truth(n > 2))
	case 3:
		return gone("yes", truth(n > 2))
	case 4, 5:
		return goneT(n)
	}
	return putT(n, fmt.Sprint(chance.Intn(100)))
}

// Runs of commits, some that can't be among them, and of Prune, and now and then a clone that goes on in place of the store.
func TestFG1FG2FG3Mixed(t *testing.T) {
	for seed := range int64(24) {
		chance := rand.New(rand.NewSource(seed))
		s, m := made(t, []string{diamond, upside, "0", "1 0 2"}[seed%4])
		n := len(m.labels)
		for step := range 60 {
			how := fmt.Sprintf("seed %d step %d", seed, step)
			switch chance.Intn(10) {
			case 0:
				snap := make([]int, n)
				for i := range snap {
					snap[i] = chance.Intn(m.commits[i]+3) - 1
				}
				prunes(t, s, m, snap, how)
			case 1:
				s, m = s.Clone(), m.copied()
			case 2:
				both(t, s, m, chance.Intn(n), append(someWrites(chance), gone("t"))...)
			case 3:
				both(t, s, m, chance.Intn(n+2)-1, someWrites(chance)...)
			default:
				both(t, s, m, chance.Intn(n), someWrites(chance)...)
			}
			counts(t, s, m, how)
			if step%12 == 11 {
				holds(t, s, m, snaps(n, slices.Max(m.commits))[:6], how)
				holds(t, s, m, [][]int{s.Now()}, how)
			}
		}
	}
}

// Many rows at all of sixteen labels, each of which dominates all ahead of it.
func TestFG2FG3GreatStore(t *testing.T) {
	const n, rows = api.MaxLabels, 2000
	s, m := made(t, "0 1 2 3 4 5 6 7 8 9 10 11 12 13 14 15")
	for at := range n {
		var l []api.Write
		for i := range rows {
			l = append(l, putT((i*7919+at)%rows, fmt.Sprint(at)))
		}
		for i := 0; i < rows; i += 2 {
			l = append(l, put("pair", text("a"), truth(true), num(i)))
		}
		if err := s.Apply(at, l); err != nil {
			t.Fatal(err)
		}
		if got := s.Rows(at); got != rows+rows/2 {
			t.Fatalf("Rows(%d): %d", at, got)
		}
	}
	for _, at := range []int{0, 7, n - 1} {
		l, err := s.View(at, s.Now(), "t", cursor.Range{})
		if len(l) != rows*(at+1) || err != nil {
			t.Fatalf("View(%d): %d, %v", at, len(l), err)
		}
		for i, x := range l {
			want := list(num(i/(at+1)), text(fmt.Sprint(i%(at+1))))
			if x.At != i%(at+1) || !slices.Equal(x.Values, want) {
				t.Fatalf("View(%d): %d: %v, not %v", at, i, x, want)
			}
		}
	}
	if got := len(m.tables); got != 3 || s.Prune(s.Now()) != 0 {
		t.Error("Prune")
	}
}

// As many tables as there may be: each has rows of its own.
func TestFG2ManyTables(t *testing.T) {
	var l []api.Table
	for i := range api.MaxTables {
		x := someTables()[0]
		x.Name = fmt.Sprint("t", i)
		l = append(l, x)
	}
	s, err := fragment.New(latticeOf(t, "0 1"), catalogOf(t, l...))
	if err != nil {
		t.Fatal(err)
	}
	for i, x := range l {
		if err := s.Apply(i%2, []api.Write{put(x.Name, num(1), text(x.Name)), put(x.Name, num(2), null())}); err != nil {
			t.Fatal(err)
		}
	}
	for i, x := range l {
		got, err := s.View(1, s.Now(), x.Name, cursor.One(keyT(1)))
		if want := fmt.Sprintf("%d(1, '%s')", i%2, x.Name); line(got) != want || err != nil {
			t.Errorf("View of %s: %s, %v", x.Name, line(got), err)
		}
	}
	if s.Rows(0) != api.MaxTables || s.Rows(1) != api.MaxTables {
		t.Errorf("Rows: %d, %d", s.Rows(0), s.Rows(1))
	}
}

// scribble writes over all of a row, its spare room too.
func scribble(l []api.Value) {
	l = l[:cap(l)]
	for i := range l {
		l[i] = text("#")
	}
}

// What was handed in is left as it is, and may be written over behind it.
func TestP7WhatIsHandedIn(t *testing.T) {
	s, m := made(t, diamond)
	rowRoom, keyRoom := make([]api.Value, 2, 8), make([]api.Value, 1, 8)
	l := make([]api.Write, 0, 8)
	for i := range 4 {
		in := append(rowRoom[:0], num(1), text(fmt.Sprint(i)))
		other := append(keyRoom[:0], num(2))
		l = append(l[:0], putT(2, "b"), api.Write{Table: "t", Row: in}, api.Write{Table: "t", Gone: true, Row: other})
		if err := s.Check(l[1]); err != nil {
			t.Fatal(err)
		}
		both(t, s, m, i, l...)
		if !slices.Equal(in, list(num(1), text(fmt.Sprint(i)))) || !slices.Equal(other, list(num(2))) || l[1].Table != "t" || len(l) != 3 {
			t.Fatalf("Apply changed what it was handed: %v", l)
		}
		scribble(in)
		scribble(other)
		l = l[:cap(l)]
		for j := range l {
			l[j] = api.Write{Table: "#"}
		}
		whole(t, s, m, "rows written over behind Apply")
	}
	snap := append(make([]int, 0, 9), 1, 1, 1, 1)
	s.View(3, snap, "t", cursor.Range{})
	s.Own(3, snap, "t", keyT(1))
	s.Changed(3, snap, "t", cursor.Range{})
	prunes(t, s, m, snap, "a snapshot")
	if !slices.Equal(snap, []int{1, 1, 1, 1}) || !slices.Equal(snap[4:9], make([]int, 5)) {
		t.Errorf("a snapshot was changed: %v", snap[:9])
	}
}

// What was handed out may be written over: the store, its clone and later answers don't tell of it.
func TestP7WhatIsHandedOut(t *testing.T) {
	s, m := few(t, diamond)
	clone := s.Clone()
	for _, x := range []*fragment.Store{s, clone} {
		for _, snap := range snaps(4, 3) {
			for at := range 4 {
				for _, one := range m.tables {
					for _, k := range someKeys(one.Name) {
						l, _, _ := x.Own(at, snap, one.Name, k)
						scribble(l)
					}
					l, _ := x.View(at, snap, one.Name, cursor.Range{})
					for _, r := range l {
						scribble(r.Values)
					}
					l = l[:cap(l)]
					for i := range l {
						l[i] = api.Row{At: -1}
					}
				}
			}
		}
		now := x.Now()
		now = now[:cap(now)]
		for i := range now {
			now[i] = -1
		}
		whole(t, s, m, "rows written over behind View and Own")
		whole(t, clone, m, "rows written over, the clone")
	}
}

// No two rows of one answer, nor of two answers, share memory, spare room too.
func TestP7AnswersShareNothing(t *testing.T) {
	s, m := made(t, "0 1")
	for at := range 2 {
		both(t, s, m, at, putT(1, "same"), putT(2, "same"), putT(3, "same"))
	}
	var lists [][]api.Value
	for range 2 {
		l, _ := s.View(1, s.Now(), "t", cursor.Range{})
		for _, r := range l {
			lists = append(lists, r.Values)
		}
		own, _, _ := s.Own(1, s.Now(), "t", keyT(2))
		lists = append(lists, own)
	}
	if len(lists) != 14 {
		t.Fatalf("%d rows", len(lists))
	}
	for i, l := range lists {
		if len(l) != 2 || l[1] != text("same") {
			t.Fatalf("the row %d: %v", i, l)
		}
		scribble(l)
	}
	whole(t, s, m, "behind all")
}

// What was handed out stays as it was, whatever the store does then.
func TestP7WhatWasHandedOutStays(t *testing.T) {
	s, _ := few(t, diamond)
	now := s.Now()
	l, _ := s.View(3, now, "t", cursor.Range{})
	own, _, _ := s.Own(0, now, "t", keyT(2))
	want, wantOwn := line(l), slices.Clone(own)
	for at := range 4 {
		for k := range 5 {
			if err := s.Apply(at, []api.Write{putT(k, "other"), goneT(k + 1)}); err != nil {
				t.Fatal(err)
			}
		}
		s.Prune(s.Now())
	}
	if line(l) != want || !slices.Equal(own, wantOwn) || !slices.Equal(now, []int{3, 2, 1, 2}) {
		t.Errorf("%s, %v, %v", line(l), own, now)
	}
}

// What a store tells hangs on what was done to it alone: twice the same tells the same.
func TestP7SameAgain(t *testing.T) {
	run := func() string {
		chance := rand.New(rand.NewSource(7))
		s, m := made(t, upside)
		var out []string
		for i := range 80 {
			out = append(out, fmt.Sprint(s.Apply(chance.Intn(5), someWrites(chance)), s.Now()))
			if i%9 == 8 {
				out = append(out, fmt.Sprint(s.Prune([]int{i / 9, i / 9, i / 7, i / 7})))
			}
			out = append(out, all(s, m, i%4, s.Now()))
		}
		return strings.Join(out, "\n")
	}
	if run() != run() {
		t.Error("told otherwise")
	}
}

// Calls that ask write nothing, and Clone reads alone: they tell the same beside one another.
func TestP7Alone(t *testing.T) {
	s, m := few(t, diamond)
	ask := func(s *fragment.Store) string {
		var out []string
		for at := range 4 {
			out = append(out, all(s, m, at, []int{2, 1, 1, 1}), all(s, m, at, s.Now()), fmt.Sprint(s.Check(putT(at, "a"))))
		}
		return strings.Join(out, "\n")
	}
	want := ask(s)
	var work sync.WaitGroup
	for range 8 {
		work.Go(func() {
			for range 5 {
				clone := s.Clone()
				if ask(s) != want || ask(clone) != want {
					t.Error("told otherwise")
				}
				clone.Apply(0, []api.Write{goneT(2), put("yes", truth(true))})
				clone.Prune(clone.Now())
			}
		})
	}
	work.Wait()
	whole(t, s, m, "behind all")
}

// FuzzFragment reads a run: of each three bytes what is done, at which label, with which key.
func FuzzFragment(f *testing.F) {
	f.Add([]byte(""))
	f.Add([]byte("\x00\x01\x01\x01\x02\x01\x02\x01\x01\x06\x00\x02"))
	f.Add([]byte("\x00\x00\x03\x03\x00\x00\x07\x01\x01\x01\x00\x03\x06\x00\x05\x05\x02\x02"))
	f.Fuzz(func(t *testing.T, b []byte) {
		s, m := made(t, diamond)
		was, wm := s.Clone(), m.copied()
		for ; len(b) >= 3; b = b[3:] {
			at, n := int(int8(b[1]))%5, int(b[2])
			switch b[0] % 8 {
			case 0, 1:
				both(t, s, m, at, putT(n%6-1, string(b[2:3])))
			case 2:
				both(t, s, m, at, goneT(n%6-1), put("yes", truth(n > 9)))
			case 3:
				both(t, s, m, at, put("pair", text("a"), truth(true), num(n%2)), gone("pair", text("a"), num(n>>1%2)))
			case 4:
				both(t, s, m, at)
			case 5:
				snap := []int{n % 4, n >> 2 % 4, n >> 4 % 4, n >> 6}
				prunes(t, s, m, snap, "the run")
			case 6:
				snap := []int{n % 4, n >> 2 % 4, n >> 4 % 4, n >> 6}
				holds(t, s, m, [][]int{snap}, "the run")
			case 7:
				whole(t, was, wm, "the clone ahead")
				was, wm = s.Clone(), m.copied()
			}
			counts(t, s, m, "the run")
		}
		whole(t, was, wm, "the clone at the end")
		whole(t, s, m, "the end")
	})
}
