package lattice_test

import (
	"math"
	"slices"
	"strings"
	"testing"

	"barbican/api"
	"barbican/label"
	"barbican/lattice"
)

const allCats = uint32(1)<<26 - 1

func at(rank int, cats uint32) api.Label { return api.Label{Rank: rank, Cats: cats} }

// ranks are n labels, no two the same; each of the first MaxLabels dominates those ahead of it.
func ranks(n int) []api.Label {
	var out []api.Label
	for i := range n {
		out = append(out, at(i%16, allCats>>(26-i/16)))
	}
	return out
}

// samples are the labels of lattices of many forms: chains, labels of which none dominates another one, diamonds, and all of them in other orders.
func samples() [][]api.Label {
	cube := []api.Label{}
	for cats := range uint32(16) {
		cube = append(cube, at(int(cats%3), cats))
	}
	out := [][]api.Label{
		{at(0, 0)},
		{at(15, allCats)},
		{at(0, 0), at(15, allCats)},
		{at(1, 1), at(2, 0)},
		{at(0, 0), at(1, 1), at(1, 2), at(2, 3)},
		{at(3, 0), at(2, 0), at(1, 0), at(0, 0)},
		{at(1, 0), at(2, 0), at(0, 4), at(1, 4), at(0, 0)},
		{at(0, 1), at(0, 2), at(0, 4), at(0, 8), at(0, 1<<25)},
		ranks(16),
		cube,
	}
	for _, l := range out {
		turned := slices.Clone(l)
		slices.Reverse(turned)
		half := append(slices.Clone(l[len(l)/2:]), l[:len(l)/2]...)
		var stirred []api.Label
		for i := range l {
			stirred = append(stirred, l[i*7%len(l)]) // 7 divides the length of none
		}
		out = append(out, turned, half, stirred)
	}
	return out
}

func textOf(t *testing.T, labels []api.Label) string {
	t.Helper()
	var out []string
	for _, l := range labels {
		s, err := label.Text(l)
		if err != nil {
			t.Fatalf("Text(%v): %v", l, err)
		}
		out = append(out, s)
	}
	return strings.Join(out, " ")
}

func made(t *testing.T, labels []api.Label) *lattice.Lattice {
	t.Helper()
	x, err := lattice.New(labels)
	if x == nil || err != nil {
		t.Fatalf("New(%v): %v, %v", labels, x, err)
	}
	return x
}

func parsed(t *testing.T, s string) *lattice.Lattice {
	t.Helper()
	x, err := lattice.Parse(s)
	if x == nil || err != nil {
		t.Fatalf("Parse(%q): %v, %v", s, x, err)
	}
	return x
}

// holds tells where a lattice has not just these labels, in this order.
func holds(t *testing.T, x *lattice.Lattice, labels []api.Label) {
	t.Helper()
	if n := x.Len(); n != len(labels) {
		t.Errorf("Len of %v: %d", labels, n)
	}
	for i, want := range labels {
		if l, err := x.Label(i); l != want || err != nil {
			t.Errorf("Label(%d) of %v: %v, %v", i, labels, l, err)
		}
		if n, err := x.Find(want); n != i || err != nil {
			t.Errorf("Find(%v) of %v: %d, %v, not %d", want, labels, n, err, i)
		}
	}
	if s, want := x.Text(), textOf(t, labels); s != want {
		t.Errorf("Text of %v: %q, not %q", labels, s, want)
	}
}

func TestLT1New(t *testing.T) {
	for _, labels := range samples() {
		holds(t, made(t, labels), labels)
	}
	for n := 1; n <= api.MaxLabels; n++ {
		holds(t, made(t, ranks(n)), ranks(n))
	}
}

func TestLT1NewRefuses(t *testing.T) {
	full := ranks(16)
	wrong := at(16, 0)
	for _, c := range []struct {
		what   string
		labels []api.Label
		want   error
	}{
		{"nil", nil, api.ErrArg},
		{"no labels", []api.Label{}, api.ErrArg},
		{"one more than MaxLabels", ranks(17), api.ErrLong},
		{"many more", ranks(200), api.ErrLong},
		{"too many, one may not be", append(slices.Clone(full), wrong), api.ErrLong},
		{"too many, the first may not be", append([]api.Label{wrong}, full...), api.ErrLong},
		{"too many, one there twice", append(slices.Clone(full), full[3]), api.ErrLong},
		{"too many, all the same", slices.Repeat(full[:1], 17), api.ErrLong},
		{"too many, none may be, all the same", slices.Repeat([]api.Label{wrong}, 17), api.ErrLong},
		{"rank above MaxRank", []api.Label{wrong}, api.ErrLabel},
		{"rank below 0", []api.Label{at(-1, 0)}, api.ErrLabel},
		{"least rank", []api.Label{at(math.MinInt, 0)}, api.ErrLabel},
		{"greatest rank", []api.Label{at(math.MaxInt, 0)}, api.ErrLabel},
		{"no category", []api.Label{at(0, 1<<26)}, api.ErrLabel},
		{"the highest bit", []api.Label{at(0, 1<<31)}, api.ErrLabel},
		{"the last one may not be", []api.Label{full[0], full[1], wrong}, api.ErrLabel},
		{"the last of MaxLabels may not be", append(slices.Clone(full[:15]), wrong), api.ErrLabel},
		{"one that may not be, twice", []api.Label{wrong, wrong}, api.ErrLabel},
		{"there twice ahead of one that may not be", []api.Label{full[0], full[0], wrong}, api.ErrLabel},
		{"there twice behind one that may not be", []api.Label{wrong, full[0], full[0]}, api.ErrLabel},
		{"there twice", []api.Label{full[0], full[0]}, api.ErrTwice},
		{"there twice, with categories", []api.Label{at(2, 5), at(2, 0), at(2, 5)}, api.ErrTwice},
		{"the first and the last of MaxLabels", append(slices.Clone(full[:15]), full[0]), api.ErrTwice},
		{"the last two of MaxLabels", append(slices.Clone(full[:15]), full[14]), api.ErrTwice},
		{"all the same", slices.Repeat(full[5:6], 16), api.ErrTwice},
	} {
		if x, err := lattice.New(c.labels); x != nil || err != c.want {
			t.Errorf("New of %s: %v, %v, not %v", c.what, x, err, c.want)
		}
	}
}

// One rank with other categories, and other ranks with the same ones, are other labels.
func TestLT1NewSameInPart(t *testing.T) {
	labels := []api.Label{at(2, 1), at(2, 2), at(2, 0), at(2, 3), at(1, 1), at(1, 0)}
	holds(t, made(t, labels), labels)
}

func TestLT1Parse(t *testing.T) {
	for _, labels := range samples() {
		holds(t, parsed(t, textOf(t, labels)), labels)
	}
	for n := 1; n <= api.MaxLabels; n++ {
		holds(t, parsed(t, textOf(t, ranks(n))), ranks(n))
	}
	for _, s := range []string{"0", "15:abcdefghijklmnopqrstuvwxyz", "0 1:a 1:b 2:ab", "2:ab 0", "3 2 1 0"} {
		if got := parsed(t, s).Text(); got != s {
			t.Errorf("Text of Parse(%q): %q", s, got)
		}
	}
}

func TestLT1ParseRefuses(t *testing.T) {
	full := textOf(t, ranks(16))
	for _, c := range []struct {
		s    string
		want error
	}{
		{"", api.ErrForm},
		{" ", api.ErrForm},
		{"  ", api.ErrForm},
		{"0  1", api.ErrForm},
		{" 0", api.ErrForm},
		{"0 ", api.ErrForm},
		{" 0 1", api.ErrForm},
		{"0 1 ", api.ErrForm},
		{"0\t1", api.ErrForm},
		{"0\n1", api.ErrForm},
		{"0 1\n", api.ErrForm},
		{"0,1", api.ErrForm},
		{"0, 1", api.ErrForm},
		{"0\u00a01", api.ErrForm},
		{"0\x001", api.ErrForm},
		{"0 \xff", api.ErrForm},
		{"x", api.ErrForm},
		{"0 x", api.ErrForm},
		{"0 16", api.ErrForm},
		{"16", api.ErrForm},
		{"0 -1", api.ErrForm},
		{"0 01", api.ErrForm},
		{"0 1:", api.ErrForm},
		{"0 1:ba", api.ErrForm},
		{"0 1: a", api.ErrForm},
		{"0 1 :a", api.ErrForm},
		{"0 :a", api.ErrForm},
		{"0 0 x", api.ErrForm},
		{"x 0 0", api.ErrForm},
		{full + " x", api.ErrForm},
		{full + " ", api.ErrForm},
		{" " + full, api.ErrForm},
		{full + "  0:z", api.ErrForm},
		{full + " " + full + " x", api.ErrForm},
		{strings.Repeat("0 ", 1000), api.ErrForm},
		{strings.Repeat(" ", 1000), api.ErrForm},
		{strings.Repeat("0 ", 1000) + "x", api.ErrForm},
		{strings.Repeat("0", 1000), api.ErrForm},
		{full + " 0:z", api.ErrLong},
		{full + " 0", api.ErrLong},
		{full + " " + full, api.ErrLong},
		{strings.Repeat("0 ", 1000) + "0", api.ErrLong},
		{"0 0", api.ErrTwice},
		{"1:ab 0 1:ab", api.ErrTwice},
		{full[2:] + " 1", api.ErrTwice},
	} {
		if x, err := lattice.Parse(c.s); x != nil || err != c.want {
			t.Errorf("Parse(%.60q): %v, %v, not %v", c.s, x, err, c.want)
		}
	}
}

// What New was given is not changed and not kept.
func TestLT1NewLeavesItsArgument(t *testing.T) {
	room := ranks(16)
	labels := []api.Label{at(2, 3), at(0, 0), at(1, 1)}
	given := append(room[:0], labels...)
	x := made(t, given)
	if !slices.Equal(room[:3], labels) || !slices.Equal(room[3:], ranks(16)[3:]) {
		t.Errorf("New has changed what it was given: %v", room)
	}
	given[0], given[1], given[2] = at(0, 0), at(9, 9), at(2, 3)
	holds(t, x, labels)
	if below := x.Below(0); !slices.Equal(below, []int{0, 1, 2}) {
		t.Errorf("Below(0) behind a change of what New was given: %v", below)
	}
}

// noPlaces are numbers that are no place of a lattice of n labels.
func noPlaces(n int) []int {
	return []int{-1, n, n + 1, -n, -n - 1, 16, 1000, math.MinInt, math.MaxInt, math.MinInt + n, 1 << 32, -1 << 32}
}

func TestLT2NoPlaces(t *testing.T) {
	for _, n := range []int{1, 2, 15, 16} {
		x := made(t, ranks(n))
		for _, i := range noPlaces(n) {
			if i >= 0 && i < n {
				continue
			}
			if l, err := x.Label(i); l != (api.Label{}) || err != api.ErrArg {
				t.Errorf("Label(%d) of %d: %v, %v, not ErrArg", i, n, l, err)
			}
			if below := x.Below(i); len(below) != 0 {
				t.Errorf("Below(%d) of %d: %v", i, n, below)
			}
			if above := x.Above(i); len(above) != 0 {
				t.Errorf("Above(%d) of %d: %v", i, n, above)
			}
			if x.Dominates(i, 0) || x.Dominates(0, i) || x.Dominates(n-1, i) || x.Dominates(i, n-1) || x.Dominates(i, i) {
				t.Errorf("of %d, %d dominates or is dominated", n, i)
			}
		}
	}
}

func TestLT2Places(t *testing.T) {
	x := parsed(t, "0 1:a 1:b 2:ab")
	if n := x.Len(); n != 4 {
		t.Errorf("Len: %d", n)
	}
	for i, want := range []api.Label{at(0, 0), at(1, 1), at(1, 2), at(2, 3)} {
		if l, err := x.Label(i); l != want || err != nil {
			t.Errorf("Label(%d): %v, %v, not %v", i, l, err, want)
		}
		if n, err := x.Find(want); n != i || err != nil {
			t.Errorf("Find(%v): %d, %v, not %d", want, n, err, i)
		}
	}
	for _, l := range []api.Label{
		at(1, 0), at(0, 1), at(2, 0), at(1, 3), at(2, 1), at(3, 3), at(15, allCats), at(16, 0), at(-1, 0), at(0, 1<<26), at(2, 3|1<<31), at(math.MaxInt, math.MaxUint32),
	} {
		if n, err := x.Find(l); n != 0 || err != api.ErrNone {
			t.Errorf("Find(%v): %d, %v, not ErrNone", l, n, err)
		}
	}
}

func TestLT2Neighbours(t *testing.T) {
	for _, c := range []struct {
		s            string
		below, above [][]int
	}{
		{"0", [][]int{{0}}, [][]int{{0}}},
		{"0 1:a 1:b 2:ab", [][]int{{0}, {0, 1}, {0, 2}, {0, 1, 2, 3}}, [][]int{{0, 1, 2, 3}, {1, 3}, {2, 3}, {3}}},
		{"2:ab 1:b 1:a 0", [][]int{{0, 1, 2, 3}, {1, 3}, {2, 3}, {3}}, [][]int{{0}, {0, 1}, {0, 2}, {0, 1, 2, 3}}},
		{"1:a 2", [][]int{{0}, {1}}, [][]int{{0}, {1}}},
		{"2:ab 0", [][]int{{0, 1}, {1}}, [][]int{{0}, {0, 1}}},
		{"1 1:a 0:a 15", [][]int{{0}, {0, 1, 2}, {2}, {0, 3}}, [][]int{{0, 1, 3}, {1}, {1, 2}, {3}}},
	} {
		x := parsed(t, c.s)
		for i := range x.Len() {
			if below := x.Below(i); !slices.Equal(below, c.below[i]) {
				t.Errorf("Below(%d) of %q: %v, not %v", i, c.s, below, c.below[i])
			}
			if above := x.Above(i); !slices.Equal(above, c.above[i]) {
				t.Errorf("Above(%d) of %q: %v, not %v", i, c.s, above, c.above[i])
			}
			for j := range x.Len() {
				if got, want := x.Dominates(i, j), slices.Contains(c.below[i], j); got != want {
					t.Errorf("Dominates(%d, %d) of %q: %v", i, j, c.s, got)
				}
			}
		}
	}
}

func TestLT2ByTheWords(t *testing.T) {
	for _, labels := range samples() {
		x := made(t, labels)
		for i, a := range labels {
			var below, above []int
			for j, b := range labels {
				if got, want := x.Dominates(i, j), label.Dominates(a, b); got != want {
					t.Errorf("Dominates(%d, %d) of %v: %v", i, j, labels, got)
				}
				if label.Dominates(a, b) {
					below = append(below, j)
				}
				if label.Dominates(b, a) {
					above = append(above, j)
				}
			}
			if got := x.Below(i); !slices.Equal(got, below) {
				t.Errorf("Below(%d) of %v: %v, not %v", i, labels, got, below)
			}
			if got := x.Above(i); !slices.Equal(got, above) {
				t.Errorf("Above(%d) of %v: %v, not %v", i, labels, got, above)
			}
		}
	}
}

// spoil changes a list, its spare room too.
func spoil(l []int) {
	l = l[:cap(l)]
	for i := range l {
		l[i] = -7
	}
}

// What was answered is new memory: a change of it is seen in no other answer.
func TestLT2AnswersAreNew(t *testing.T) {
	x := parsed(t, "0 1:a 1:b 2:ab")
	first := [][]int{x.Below(3), x.Above(0), x.Order(), x.Below(3), x.Above(0), x.Order()}
	for _, l := range first[:3] {
		spoil(l)
	}
	for _, l := range append(first[3:], x.Below(3), x.Above(0), x.Order()) {
		if !slices.Equal(l, []int{0, 1, 2, 3}) {
			t.Errorf("behind a change of another answer: %v", l)
		}
	}
}

func TestLT3Order(t *testing.T) {
	for _, c := range []struct {
		s    string
		want []int
	}{
		{"0", []int{0}},
		{"15:z", []int{0}},
		{"0 1:a 1:b 2:ab", []int{0, 1, 2, 3}},
		{"2:ab 0", []int{1, 0}},
		{"0 2:ab", []int{0, 1}},
		{"1:a 2", []int{0, 1}},
		{"2 1:a", []int{0, 1}},
		{"3 2 1 0", []int{3, 2, 1, 0}},
		{"2:ab 1:b 1:a 0", []int{3, 1, 2, 0}},
		{"0:c 0:b 0:a", []int{0, 1, 2}},
		// The place 1 dominates the place 0, which comes in the second round: it waits for the third one, behind the place 2.
		{"1 2 0:a 0 1:a", []int{3, 0, 2, 1, 4}},
		{"1 2 1:b 0", []int{3, 0, 1, 2}},
		{"5 6 5:a 0 0:a", []int{3, 0, 4, 1, 2}},
		{"1:a 2:a 1:b 0", []int{3, 0, 2, 1}},
		{"15 9:a 9 0:a 0", []int{4, 2, 3, 0, 1}},
		{"1:abc 0:a 0:b 0:c 0:ab 0:bc 0:abc", []int{1, 2, 3, 4, 5, 6, 0}},
	} {
		if got := parsed(t, c.s).Order(); !slices.Equal(got, c.want) {
			t.Errorf("Order of %q: %v, not %v", c.s, got, c.want)
		}
	}
	down := ranks(16)
	slices.Reverse(down)
	want := []int{15, 14, 13, 12, 11, 10, 9, 8, 7, 6, 5, 4, 3, 2, 1, 0}
	if got := made(t, down).Order(); !slices.Equal(got, want) {
		t.Errorf("Order of a falling chain: %v", got)
	}
}

// height is in which round a place comes: how many others lie in a row below it, where that row is longest.
func height(labels []api.Label, i int) int {
	high := 0
	for j, l := range labels {
		if j != i && label.Dominates(labels[i], l) {
			high = max(high, height(labels, j)+1)
		}
	}
	return high
}

func TestLT3Rounds(t *testing.T) {
	for _, labels := range samples() {
		var want []int
		for round := range labels {
			for i := range labels {
				if height(labels, i) == round {
					want = append(want, i)
				}
			}
		}
		if got := made(t, labels).Order(); !slices.Equal(got, want) {
			t.Errorf("Order of %v: %v, not %v", labels, got, want)
		}
	}
}

func TestLT4OneRelation(t *testing.T) {
	for _, labels := range samples() {
		x := made(t, labels)
		for i := range labels {
			for j := range labels {
				below, above := slices.Contains(x.Below(i), j), slices.Contains(x.Above(j), i)
				if below != above || below != x.Dominates(i, j) {
					t.Errorf("of %v: %d Below %d: %v; Above: %v; Dominates: %v", labels, j, i, below, above, x.Dominates(i, j))
				}
			}
			if !slices.Contains(x.Below(i), i) || !slices.Contains(x.Above(i), i) {
				t.Errorf("of %v: %d is not below and above itself", labels, i)
			}
		}
	}
}

func TestLT4OrderStandsBehind(t *testing.T) {
	for _, labels := range samples() {
		order := made(t, labels).Order()
		all := slices.Sorted(slices.Values(order))
		for i := range labels {
			if i >= len(all) || all[i] != i {
				t.Fatalf("Order of %v does not hold each place once: %v", labels, order)
			}
		}
		if len(order) != len(labels) {
			t.Fatalf("Order of %v: %v", labels, order)
		}
		for n, i := range order {
			for _, j := range order[n+1:] {
				if label.Dominates(labels[i], labels[j]) {
					t.Errorf("Order of %v: %v: %d stands ahead of %d, which it dominates", labels, order, i, j)
				}
			}
		}
	}
}

func TestLT4Nil(t *testing.T) {
	var x *lattice.Lattice
	if n := x.Len(); n != 0 {
		t.Errorf("Len: %d", n)
	}
	if s := x.Text(); s != "" {
		t.Errorf("Text: %q", s)
	}
	if order := x.Order(); len(order) != 0 {
		t.Errorf("Order: %v", order)
	}
	for _, l := range []api.Label{at(0, 0), at(15, allCats), at(16, 0)} {
		if n, err := x.Find(l); n != 0 || err != api.ErrNone {
			t.Errorf("Find(%v): %d, %v, not ErrNone", l, n, err)
		}
	}
	for _, i := range append(noPlaces(0), 0, 1) {
		if l, err := x.Label(i); l != (api.Label{}) || err != api.ErrArg {
			t.Errorf("Label(%d): %v, %v, not ErrArg", i, l, err)
		}
		if x.Dominates(i, 0) || x.Dominates(0, i) || x.Dominates(i, i) {
			t.Errorf("%d dominates or is dominated", i)
		}
		if below, above := x.Below(i), x.Above(i); len(below)+len(above) != 0 {
			t.Errorf("Below(%d): %v; Above: %v", i, below, above)
		}
	}
}

func FuzzParse(f *testing.F) {
	for _, labels := range samples() {
		var out []string
		for _, l := range labels {
			s, _ := label.Text(l)
			out = append(out, s)
		}
		f.Add(strings.Join(out, " "))
	}
	f.Add("0  1")
	f.Add("0 0")
	f.Fuzz(func(t *testing.T, s string) {
		var labels []api.Label
		want := error(nil)
		for _, text := range strings.Split(s, " ") {
			l, err := label.Parse(text)
			if err != nil {
				want = api.ErrForm
			}
			labels = append(labels, l)
		}
		if want == nil {
			_, want = lattice.New(labels)
		}
		x, err := lattice.Parse(s)
		if err != want || (x == nil) != (err != nil) {
			t.Fatalf("Parse(%q): %v, %v, not %v", s, x, err, want)
		}
		if err == nil && x.Text() != s {
			t.Fatalf("Parse(%q): its Text is %q", s, x.Text())
		}
	})
}
