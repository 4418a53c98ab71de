package heap_test

import (
	"fmt"
	"math"
	"math/rand"
	"slices"
	"strings"
	"testing"

	"barbican/api"
	"barbican/heap"
)

// at is a number with its rank.
func at(id, rank int) heap.Item { return heap.Item{ID: id, Rank: rank} }

// items is a list of them.
func items(of ...heap.Item) []heap.Item { return of }

// queue is a queue by the words of HE1: its numbers, the one that was pushed or moved earlier ahead.
type queue []heap.Item

// find is where a number stands, below 0 if it is not there.
func (m queue) find(id int) int {
	return slices.IndexFunc(m, func(x heap.Item) bool { return x.ID == id })
}

// first is where the first one in order stands: of the least rank the one that stands ahead.
func (m queue) first() int {
	best := 0
	for i, x := range m {
		if x.Rank < m[best].Rank {
			best = i
		}
	}
	return best
}

// all are all in order: the first one of those that are left, again and again.
func (m queue) all() []heap.Item {
	var out []heap.Item
	for left := slices.Clone(m); len(left) > 0; {
		i := left.first()
		out = append(out, left[i])
		left = slices.Delete(left, i, i+1)
	}
	return out
}

// step is a call that changes a queue.
type step struct {
	call     string
	id, rank int
}

// by does a step to what the words tell: what it answers, and what is left.
func (m queue) by(s step) (heap.Item, error, queue) {
	i := m.find(s.id)
	switch s.call {
	case "Push":
		if i >= 0 {
			return heap.Item{}, api.ErrTwice, m
		}
		return heap.Item{}, nil, append(m, at(s.id, s.rank))
	case "Pop":
		if len(m) == 0 {
			return heap.Item{}, api.ErrNone, m
		}
		i = m.first()
		first := m[i]
		return first, nil, slices.Delete(m, i, i+1)
	case "Move":
		if i < 0 {
			return heap.Item{}, api.ErrNone, m
		}
		return heap.Item{}, nil, append(slices.Delete(m, i, i+1), at(s.id, s.rank))
	}
	if i < 0 {
		return heap.Item{}, api.ErrNone, m
	}
	return heap.Item{}, nil, slices.Delete(m, i, i+1)
}

// do does a step to a queue.
func do(q *heap.Queue, s step) (heap.Item, error) {
	switch s.call {
	case "Push":
		return heap.Item{}, q.Push(s.id, s.rank)
	case "Pop":
		return q.Pop()
	case "Move":
		return heap.Item{}, q.Move(s.id, s.rank)
	}
	return heap.Item{}, q.Drop(s.id)
}

// holds asks a queue for all that it tells, without a change.
func holds(t *testing.T, q *heap.Queue, want []heap.Item, how any) {
	t.Helper()
	if got := q.All(); !slices.Equal(got, want) {
		t.Fatalf("%v: All: %v, not %v", how, got, want)
	}
	if got := q.Len(); got != len(want) {
		t.Fatalf("%v: Len: %d, not %d", how, got, len(want))
	}
	got, err := q.Top()
	if len(want) == 0 {
		if got != (heap.Item{}) || err != error(api.ErrNone) {
			t.Fatalf("%v: Top: %v, %v", how, got, err)
		}
		return
	}
	if got != want[0] || err != nil {
		t.Fatalf("%v: Top: %v, %v, not %v", how, got, err, want[0])
	}
}

// pops takes all out, and holds them against what is wanted.
func pops(t *testing.T, q *heap.Queue, want []heap.Item, how any) {
	t.Helper()
	for i, one := range want {
		if got, err := q.Pop(); got != one || err != nil {
			t.Fatalf("%v: Pop %d: %v, %v, not %v", how, i, got, err, one)
		}
	}
	if got, err := q.Pop(); got != (heap.Item{}) || err != error(api.ErrNone) {
		t.Fatalf("%v: Pop of none: %v, %v", how, got, err)
	}
	holds(t, q, nil, how)
}

// follows does steps to a queue and by the words; behind each step the queue is asked for all, if often.
func follows(t *testing.T, steps []step, often bool) {
	t.Helper()
	q, m := heap.New(), queue(nil)
	for i, s := range steps {
		got, err := do(q, s)
		want, wantErr, left := m.by(s)
		m = left
		if got != want || err != wantErr {
			t.Fatalf("%v: %v, %v, not %v, %v", steps[:i+1], got, err, want, wantErr)
		}
		if often {
			holds(t, q, m.all(), steps[:i+1])
		}
	}
	holds(t, q, m.all(), steps)
	pops(t, q, m.all(), steps)
}

// pushed is a queue of numbers that were pushed one by one.
func pushed(t *testing.T, l ...heap.Item) *heap.Queue {
	t.Helper()
	q := heap.New()
	for _, x := range l {
		if err := q.Push(x.ID, x.Rank); err != nil {
			t.Fatalf("Push(%d, %d): %v", x.ID, x.Rank, err)
		}
	}
	return q
}

// is fails where an error is not the one that is wanted.
func is(t *testing.T, got, want error, how string) {
	t.Helper()
	if got != want {
		t.Fatalf("%s: %v, not %v", how, got, want)
	}
}

// few are all steps over three numbers and three ranks.
func few() []step {
	out := []step{{call: "Pop"}}
	for id := range 3 {
		out = append(out, step{"Drop", id - 1, 0})
		for rank := range 3 {
			out = append(out, step{"Push", id - 1, rank - 1}, step{"Move", id - 1, rank - 1})
		}
	}
	return out
}

// some are n steps over few or many numbers and ranks: the same ones with the same seed.
func some(seed int64, n, ids, ranks int) []step {
	chance := rand.New(rand.NewSource(seed))
	calls := []string{"Push", "Push", "Push", "Move", "Move", "Drop", "Pop"}
	out := make([]step, n)
	for i := range out {
		out[i] = step{calls[chance.Intn(len(calls))], chance.Intn(ids) - ids/2, chance.Intn(ranks) - ranks/2}
	}
	return out
}

func TestHE1New(t *testing.T) {
	q := heap.New()
	if q == nil {
		t.Fatal("New: nil")
	}
	holds(t, q, nil, "New")
	pops(t, q, nil, "New")
	is(t, q.Move(0, 0), api.ErrNone, "Move of none")
	is(t, q.Drop(0), api.ErrNone, "Drop of none")
	holds(t, q, nil, "behind what was refused")
}

func TestHE1Examples(t *testing.T) {
	q := pushed(t, at(1, 5), at(2, 3), at(3, 5))
	holds(t, q, items(at(2, 3), at(1, 5), at(3, 5)), "pushed")
	is(t, q.Move(1, 5), nil, "Move(1, 5)")
	holds(t, q, items(at(2, 3), at(3, 5), at(1, 5)), "moved")
	pops(t, q, items(at(2, 3), at(3, 5), at(1, 5)), "moved")
}

func TestHE1One(t *testing.T) {
	for _, x := range items(at(0, 0), at(7, -7), at(-1, 1), at(math.MinInt, math.MaxInt), at(math.MaxInt, math.MinInt)) {
		q := pushed(t, x)
		holds(t, q, items(x), x)
		is(t, q.Push(x.ID, x.Rank), api.ErrTwice, "Push again")
		is(t, q.Push(x.ID, 3), api.ErrTwice, "Push again with another rank")
		holds(t, q, items(x), x)
		is(t, q.Move(x.ID, 3), nil, "Move")
		holds(t, q, items(at(x.ID, 3)), x)
		is(t, q.Drop(x.ID), nil, "Drop")
		holds(t, q, nil, x)
		is(t, q.Drop(x.ID), api.ErrNone, "Drop again")
		is(t, q.Move(x.ID, 3), api.ErrNone, "Move of what was dropped")
		is(t, q.Push(x.ID, x.Rank), nil, "Push of what was dropped")
		pops(t, q, items(x), x)
		is(t, q.Drop(x.ID), api.ErrNone, "Drop of what was popped")
		is(t, q.Move(x.ID, 3), api.ErrNone, "Move of what was popped")
		is(t, q.Push(x.ID, 4), nil, "Push of what was popped")
		pops(t, q, items(at(x.ID, 4)), x)
	}
}

// Of one rank the one that was pushed earlier comes first, whatever its number.
func TestHE1SameRank(t *testing.T) {
	for _, rank := range []int{0, 1, -1, math.MinInt, math.MaxInt} {
		for n := range 40 {
			var up, down, mixed []heap.Item
			for i := range n {
				up = append(up, at(i, rank))
				down = append(down, at(-i, rank))
				mixed = append(mixed, at(i*17%41-20, rank))
			}
			for _, l := range [][]heap.Item{up, down, mixed} {
				holds(t, pushed(t, l...), l, l)
				pops(t, pushed(t, l...), l, l)
			}
		}
	}
}

// A number that is moved stands behind all others of its rank, even where it had that rank.
func TestHE1MoveGoesBehind(t *testing.T) {
	for moved := range 9 {
		for rank := -1; rank <= 1; rank++ {
			var l, others []heap.Item
			for id := range 9 {
				l = append(l, at(id, 0))
				if id != moved {
					others = append(others, at(id, 0))
				}
			}
			q := pushed(t, l...)
			is(t, q.Move(moved, rank), nil, "Move")
			want := append(others, at(moved, rank))
			if rank < 0 {
				want = append(items(at(moved, rank)), others...)
			}
			holds(t, q, want, moved)
			pops(t, q, want, moved)
		}
	}
}

// A number that was moved away and back has lost its turn; so has one that was dropped and pushed again.
func TestHE1TurnsAreLost(t *testing.T) {
	q := pushed(t, at(1, 5), at(2, 5), at(3, 5))
	is(t, q.Move(1, 9), nil, "Move away")
	is(t, q.Move(1, 5), nil, "Move back")
	holds(t, q, items(at(2, 5), at(3, 5), at(1, 5)), "moved back")
	is(t, q.Drop(2), nil, "Drop")
	is(t, q.Push(2, 5), nil, "Push again")
	holds(t, q, items(at(3, 5), at(1, 5), at(2, 5)), "pushed again")
	if got, err := q.Pop(); got != at(3, 5) || err != nil {
		t.Fatalf("Pop: %v, %v", got, err)
	}
	is(t, q.Push(3, 5), nil, "Push of what was popped")
	pops(t, q, items(at(1, 5), at(2, 5), at(3, 5)), "popped and pushed again")
	is(t, q.Push(2, 5), nil, "Push into an emptied queue")
	is(t, q.Push(1, 5), nil, "Push into an emptied queue")
	pops(t, q, items(at(2, 5), at(1, 5)), "emptied and filled again")
}

// What is refused takes no turn, and leaves all as it was.
func TestHE1RefusedChangesNothing(t *testing.T) {
	all := items(at(4, -1), at(1, 5), at(2, 5), at(3, 7))
	q := pushed(t, at(1, 5), at(2, 5), at(3, 7), at(4, -1))
	for _, x := range all {
		for _, rank := range []int{math.MinInt, -1, 0, 5, 6, 7, math.MaxInt} {
			is(t, q.Push(x.ID, rank), api.ErrTwice, "Push of what is there")
			holds(t, q, all, "Push of what is there")
		}
	}
	for _, id := range []int{0, -1, 5, math.MinInt, math.MaxInt} {
		is(t, q.Move(id, 5), api.ErrNone, "Move of what is not there")
		is(t, q.Drop(id), api.ErrNone, "Drop of what is not there")
		holds(t, q, all, "what is not there")
	}
	pops(t, q, all, "refused")
}

// The least and the greatest int are numbers and ranks as any other ones.
func TestHE1Ends(t *testing.T) {
	ends := []int{math.MinInt, math.MinInt + 1, -1, 0, 1, math.MaxInt - 1, math.MaxInt}
	q := heap.New()
	var want []heap.Item
	for i := range ends {
		down := ends[len(ends)-1-i]
		is(t, q.Push(ends[i], down), nil, "Push")
		want = append(want, at(down, ends[i]))
	}
	holds(t, q, want, "pushed")
	for _, id := range ends {
		is(t, q.Move(id, id), nil, "Move")
	}
	want = nil
	for _, id := range ends {
		want = append(want, at(id, id))
	}
	holds(t, q, want, "moved")
	is(t, q.Drop(math.MinInt), nil, "Drop")
	is(t, q.Drop(math.MaxInt), nil, "Drop")
	pops(t, q, want[1:len(want)-1], "dropped")
}

func TestHE1Nil(t *testing.T) {
	var q *heap.Queue
	for range 2 {
		holds(t, q, nil, "nil")
		pops(t, q, nil, "nil")
		for _, n := range []int{0, 1, -1, math.MinInt, math.MaxInt} {
			is(t, q.Push(n, n), api.ErrNone, "Push on nil")
			is(t, q.Move(n, n), api.ErrNone, "Move on nil")
			is(t, q.Drop(n), api.ErrNone, "Drop on nil")
		}
	}
	if q != nil {
		t.Errorf("nil became %v", q)
	}
}

// Each number is moved from each place to each other one, and dropped there.
func TestHE1EachPlace(t *testing.T) {
	const n = 12
	for id := range n {
		for rank := -1; rank <= 2*n; rank++ {
			var steps []step
			for i := range n {
				steps = append(steps, step{"Push", i * 5 % n, 2 * (i * 7 % n)})
			}
			steps = append(steps, step{"Move", id, rank})
			follows(t, steps, false)
			follows(t, append(steps, step{"Drop", id, 0}), false)
			follows(t, append(steps, step{"Drop", (id + 1) % n, 0}, step{"Move", id, 2 * n}), false)
		}
	}
}

// All short runs of steps.
func TestHE1ByTheWords(t *testing.T) {
	follows(t, nil, true)
	runs := [][]step{nil}
	for range 3 {
		var longer [][]step
		for _, run := range runs {
			for _, s := range few() {
				longer = append(longer, append(slices.Clip(run), s))
			}
		}
		runs = longer
		for _, run := range runs {
			follows(t, run, true)
		}
	}
	for _, run := range runs {
		for _, s := range few() {
			follows(t, append(run, s), false)
		}
	}
}

// Long runs of steps, over few and over many numbers.
func TestHE1LongRuns(t *testing.T) {
	for seed := range int64(60) {
		for _, size := range []struct{ ids, ranks int }{{1, 1}, {2, 3}, {5, 1}, {8, 3}, {40, 5}, {200, 7}, {200, 1000}} {
			follows(t, some(seed, 200, size.ids, size.ranks), seed < 5)
		}
	}
}

func TestHE1Many(t *testing.T) {
	const n = 1 << 16
	q := heap.New()
	want := make([]heap.Item, n)
	for i := range n {
		id := i * 40503 % n
		want[id] = at(id, id/3)
		is(t, q.Push(id, -i), nil, "Push")
	}
	for id := range n {
		is(t, q.Move(id, id/3), nil, "Move")
	}
	if got := q.All(); !slices.Equal(got, want) {
		t.Fatal("All of many are not in order")
	}
	for id := 0; id < n; id += 2 {
		is(t, q.Drop(id), nil, "Drop")
	}
	for id := 1; id < n; id += 2 {
		if got, err := q.Pop(); got != want[id] || err != nil {
			t.Fatalf("Pop: %v, %v, not %v", got, err, want[id])
		}
	}
	holds(t, q, nil, "many")
}

// merged are lists as one by the words of HE2.
func merged(l [][]string) []string {
	left := slices.Clone(l)
	var out []string
	for {
		best := -1
		for i, texts := range left {
			if len(texts) > 0 && (best < 0 || texts[0] < left[best][0]) {
				best = i
			}
		}
		if best < 0 {
			return out
		}
		out = append(out, left[best][0])
		left[best] = left[best][1:]
	}
}

// least are places by the words of HE2.
func least(l []string, n int) []int {
	var left, out []int
	for i := range l {
		left = append(left, i)
	}
	for len(out) < n && len(left) > 0 {
		best := 0
		for at, i := range left {
			if l[i] < l[left[best]] {
				best = at
			}
		}
		out = append(out, left[best])
		left = slices.Delete(left, best, best+1)
	}
	return out
}

// strung are all lists of up to n of some texts.
func strung(n int, of ...string) [][]string {
	out := [][]string{nil}
	for from := 0; n > 0; n-- {
		ahead := out[from:]
		from = len(out)
		for _, l := range ahead {
			for _, s := range of {
				out = append(out, append(slices.Clip(l), s))
			}
		}
	}
	return out
}

// words are texts: of no bytes, such as go on where another one ends, bytes of no rune, and long ones that differ at their ends alone.
func words() []string {
	long := strings.Repeat("x", api.MaxText)
	return []string{"", "\x00", "\x00\x00", "\x01", " ", "-1", "0", "1", "10", "2", "9", "B", "a", "a\x00", "ab", "abc", "b", "\x7f", "\x80", "\xc3\xa9", "\xff", "\xff\xff", long, long + "a", long + "b"}
}

func TestHE2Merge(t *testing.T) {
	for _, c := range []struct {
		l    [][]string
		want []string
	}{
		{nil, nil},
		{[][]string{}, nil},
		{[][]string{nil}, nil},
		{[][]string{{}, nil, {}}, nil},
		{[][]string{{"a"}}, []string{"a"}},
		{[][]string{nil, {"b"}, {}, {"a"}, nil}, []string{"a", "b"}},
		{[][]string{{"a", "c"}, {"b", "d"}}, []string{"a", "b", "c", "d"}},
		{[][]string{{"b", "d"}, {"a", "c", "e", "f"}}, []string{"a", "b", "c", "d", "e", "f"}},
		{[][]string{{"a", "b"}, {"a", "b"}, {"a"}}, []string{"a", "a", "a", "b", "b"}},
		{[][]string{{"a", "a", "b"}, {"a"}}, []string{"a", "a", "a", "b"}},
		{[][]string{{"", ""}, {"", "a"}}, []string{"", "", "", "a"}},
		{[][]string{{"ab", "b"}, {"a", "abc"}}, []string{"a", "ab", "abc", "b"}},
		{[][]string{{"10", "9"}, {"2"}}, []string{"10", "2", "9"}},
		// Lists that are not in order: what stands first in its list holds up what stands behind it.
		{[][]string{{"c", "a", "b"}}, []string{"c", "a", "b"}},
		{[][]string{{"c", "a"}, {"b", "d"}}, []string{"b", "c", "a", "d"}},
		{[][]string{{"b", "a"}, {"b", "c"}}, []string{"b", "a", "b", "c"}},
		{[][]string{{"b", "c"}, {"b", "a"}}, []string{"b", "b", "a", "c"}},
		{[][]string{{"b", "z"}, {"b", "y"}, {"b", "x"}}, []string{"b", "b", "b", "x", "y", "z"}},
		{[][]string{{"b", "b", "1"}, {"b", "a"}}, []string{"b", "b", "1", "b", "a"}},
		{[][]string{{"z", "a"}, {"y", "b"}, {"x", "c"}}, []string{"x", "c", "y", "b", "z", "a"}},
		{[][]string{{"é", "z"}, {"\x80", "\xff"}}, []string{"\x80", "é", "z", "\xff"}},
	} {
		if got := heap.Merge(c.l); !slices.Equal(got, c.want) {
			t.Errorf("Merge(%q): %q, not %q", c.l, got, c.want)
		}
	}
}

// merges holds Merge against the words.
func merges(t *testing.T, l [][]string) {
	t.Helper()
	if got, want := heap.Merge(l), merged(l); !slices.Equal(got, want) {
		t.Fatalf("Merge(%q): %q, not %q", l, got, want)
	}
}

func TestHE2MergeByTheWords(t *testing.T) {
	for _, a := range strung(3, "", "a", "b") {
		merges(t, [][]string{a})
		for _, b := range strung(3, "", "a", "b") {
			merges(t, [][]string{a, b})
			for _, c := range strung(2, "", "a", "b") {
				merges(t, [][]string{a, b, c})
				merges(t, [][]string{c, a, nil, c, b})
			}
		}
	}
	for _, a := range words() {
		for _, b := range words() {
			merges(t, [][]string{{a, b}, {b, a}, {b}, {a, a, b}})
		}
	}
}

func TestHE2MergeOfMany(t *testing.T) {
	chance := rand.New(rand.NewSource(7))
	for range 200 {
		l := make([][]string, chance.Intn(30))
		for i := range l {
			for range chance.Intn(12) {
				l[i] = append(l[i], strings.Repeat("a", chance.Intn(4))+words()[chance.Intn(8)])
			}
		}
		merges(t, l)
	}
}

func TestHE2Least(t *testing.T) {
	for _, c := range []struct {
		l    []string
		n    int
		want []int
	}{
		{nil, 0, nil},
		{nil, 1, nil},
		{[]string{}, math.MaxInt, nil},
		{nil, math.MinInt, nil},
		{[]string{"b", "a", "b"}, 2, []int{1, 0}},
		{[]string{"b", "a", "b"}, math.MinInt, nil},
		{[]string{"b", "a", "b"}, -1, nil},
		{[]string{"b", "a", "b"}, 0, nil},
		{[]string{"b", "a", "b"}, 1, []int{1}},
		{[]string{"b", "a", "b"}, 3, []int{1, 0, 2}},
		{[]string{"b", "a", "b"}, 4, []int{1, 0, 2}},
		{[]string{"b", "a", "b"}, math.MaxInt, []int{1, 0, 2}},
		{[]string{""}, 1, []int{0}},
		{[]string{"a", ""}, 1, []int{1}},
		{[]string{"a", "a", "a", "a", "a"}, 3, []int{0, 1, 2}},
		{[]string{"a", "b", "a", "b", "a"}, 4, []int{0, 2, 4, 1}},
		{[]string{"e", "d", "c", "b", "a"}, 5, []int{4, 3, 2, 1, 0}},
		{[]string{"10", "9", "2", "-1"}, 9, []int{3, 0, 2, 1}},
		{[]string{"abc", "ab", "a", "b"}, 3, []int{2, 1, 0}},
		{[]string{"\xff", "é", "\x80", "z"}, 4, []int{3, 2, 1, 0}},
	} {
		if got := heap.Least(c.l, c.n); !slices.Equal(got, c.want) {
			t.Errorf("Least(%q, %d): %v, not %v", c.l, c.n, got, c.want)
		}
	}
}

// leasts holds Least against the words.
func leasts(t *testing.T, l []string, n int) {
	t.Helper()
	if got, want := heap.Least(l, n), least(l, n); !slices.Equal(got, want) {
		t.Fatalf("Least(%q, %d): %v, not %v", l, n, got, want)
	}
}

func TestHE2LeastByTheWords(t *testing.T) {
	for _, l := range strung(5, "", "a", "b", "ba") {
		for n := -2; n <= len(l)+2; n++ {
			leasts(t, l, n)
		}
		leasts(t, l, math.MinInt)
		leasts(t, l, math.MaxInt)
	}
	back := slices.Clone(words())
	slices.Reverse(back)
	for n := -1; n <= 3*len(back); n++ {
		leasts(t, words(), n)
		leasts(t, back, n)
		leasts(t, slices.Concat(back, words(), back), n)
	}
}

func TestHE2LeastOfMany(t *testing.T) {
	const n = 1 << 15
	l := make([]string, n)
	want := make([]int, n)
	for i := range n {
		l[i] = fmt.Sprintf("%06d", i*40503%n/4)
		want[i] = i
	}
	slices.SortStableFunc(want, func(a, b int) int { return strings.Compare(l[a], l[b]) })
	for _, m := range []int{1, 2, 100, n - 1, n, n + 1} {
		if got := heap.Least(l, m); !slices.Equal(got, want[:min(m, n)]) {
			t.Errorf("Least of many, %d: not in order", m)
		}
	}
}

// What is popped never goes down, whatever was done ahead, and whatever is dropped between.
func TestHE3PoppedNeverGoesDown(t *testing.T) {
	for seed := range int64(80) {
		q := heap.New()
		for _, s := range some(seed, 300, 100, 9) {
			do(q, s)
		}
		all := q.All()
		for i, last := 0, math.MinInt; q.Len() > 0; i++ {
			if i%3 == 1 {
				middle := all[len(all)/2].ID
				err := q.Drop(middle)
				all = slices.DeleteFunc(all, func(x heap.Item) bool { return err == nil && x.ID == middle })
				continue
			}
			got, err := q.Pop()
			if err != nil || got.Rank < last || got != all[0] {
				t.Fatalf("seed %d: Pop: %v, %v behind the rank %d, with %v ahead", seed, got, err, last, all)
			}
			last, all = got.Rank, all[1:]
		}
		if len(all) > 0 {
			t.Fatalf("seed %d: none are left, but %v was not popped", seed, all)
		}
	}
}

// Merge of lists in order is in order, and has all texts of them.
func TestHE3MergeIsInOrder(t *testing.T) {
	chance := rand.New(rand.NewSource(3))
	for range 500 {
		l := make([][]string, chance.Intn(9))
		for i := range l {
			for range chance.Intn(9) {
				l[i] = append(l[i], words()[chance.Intn(len(words()))])
			}
			slices.Sort(l[i])
		}
		want := slices.Concat(l...)
		slices.Sort(want)
		if got := heap.Merge(l); !slices.Equal(got, want) {
			t.Fatalf("Merge(%q): %q, not %q", l, got, want)
		}
	}
}

// What is asked changes no queue, and two queues know nothing of one another.
func TestP7Alone(t *testing.T) {
	a, b := heap.New(), heap.New()
	is(t, a.Push(1, 1), nil, "Push")
	holds(t, b, nil, "the other queue")
	is(t, b.Push(1, 2), nil, "Push")
	is(t, b.Push(2, 1), nil, "Push")
	is(t, a.Drop(1), nil, "Drop")
	for range 3 {
		holds(t, a, nil, "one queue")
		holds(t, b, items(at(2, 1), at(1, 2)), "the other queue")
	}
	pops(t, b, items(at(2, 1), at(1, 2)), "the other queue")
	holds(t, heap.New(), nil, "a third one")
}

// The same steps answer the same, however often they are done.
func TestP7SameAgain(t *testing.T) {
	for seed := range int64(20) {
		one, two := heap.New(), heap.New()
		for _, s := range some(seed, 200, 50, 4) {
			a, errA := do(one, s)
			b, errB := do(two, s)
			if a != b || errA != errB {
				t.Fatalf("%v: %v, %v, then %v, %v", s, a, errA, b, errB)
			}
		}
		if a, b := one.All(), two.All(); !slices.Equal(a, b) {
			t.Fatalf("All: %v, then %v", a, b)
		}
	}
}

// spoil writes over a list and its spare room.
func spoil[T any](l []T, with T) {
	l = l[:cap(l)]
	for i := range l {
		l[i] = with
	}
}

func TestP7AnswersAreNew(t *testing.T) {
	for n := range 20 {
		var l []heap.Item
		var texts []string
		for i := range n {
			l = append(l, at(i, i/3))
			texts = append(texts, fmt.Sprint(i/3+100))
		}
		q := pushed(t, l...)
		again := q.All()
		spoil(q.All(), at(-9, -9))
		if !slices.Equal(again, l) {
			t.Errorf("All became %v", again)
		}
		holds(t, q, l, "All spoiled")
		pops(t, q, l, "All spoiled")

		lists := [][]string{texts, nil, texts}
		merge, places := heap.Merge(lists), heap.Least(texts, n)
		wantMerge, wantPlaces := merged(lists), least(texts, n)
		spoil(heap.Merge(lists), "spoiled")
		spoil(heap.Merge(lists[:1]), "spoiled")
		spoil(heap.Least(texts, n), -9)
		if !slices.Equal(merge, wantMerge) || !slices.Equal(heap.Merge(lists), wantMerge) {
			t.Errorf("Merge became %q", merge)
		}
		if !slices.Equal(places, wantPlaces) || !slices.Equal(heap.Least(texts, n), wantPlaces) {
			t.Errorf("Least became %v", places)
		}
	}
}

// The lists that are handed in stay as they were, with what stands in the room behind them, which is none of theirs.
func TestP7ArgumentsStay(t *testing.T) {
	for _, l := range strung(4, "c", "a", "b") {
		room := append(slices.Clone(l), "0", "room")
		wasRoom := slices.Clone(room)
		given := room[:len(l)]
		lists := [][]string{given, nil, given, {"0"}}
		if got, want := heap.Merge(lists[:3]), merged([][]string{l, nil, l}); !slices.Equal(got, want) {
			t.Errorf("Merge(%q): %q, not %q", lists[:3], got, want)
		}
		if got, want := heap.Least(given, len(room)), least(l, len(room)); !slices.Equal(got, want) {
			t.Errorf("Least(%q): %v, not %v", given, got, want)
		}
		if !slices.Equal(room, wasRoom) {
			t.Errorf("%q became %q", wasRoom, room)
		}
		want := [][]string{l, nil, l, {"0"}}
		if !slices.EqualFunc(lists, want, slices.Equal) {
			t.Errorf("%q became %q", want, lists)
		}
	}
}

func FuzzQueue(f *testing.F) {
	f.Add([]byte{})
	f.Add([]byte{0, 1, 5, 0, 2, 3, 0, 3, 5, 1, 1, 5})
	f.Add([]byte{0, 1, 5, 0, 1, 6, 3, 1, 0, 2, 0, 0, 2, 0, 0, 3, 1, 0})
	f.Fuzz(func(t *testing.T, b []byte) {
		calls := []string{"Push", "Move", "Pop", "Drop"}
		var steps []step
		for ; len(b) >= 3 && len(steps) < 200; b = b[3:] {
			steps = append(steps, step{calls[b[0]%4], int(int8(b[1])), int(int8(b[2]))})
		}
		follows(t, steps, true)
	})
}

func FuzzMerge(f *testing.F) {
	f.Add("", 0)
	f.Add("a,c;b,d;;a", 3)
	f.Add("c,a,b;c,a", -1)
	f.Fuzz(func(t *testing.T, s string, n int) {
		var l [][]string
		for _, texts := range strings.Split(s, ";") {
			l = append(l, strings.Split(texts, ","))
		}
		merges(t, l)
		leasts(t, slices.Concat(l...), n)
		for _, texts := range l {
			slices.Sort(texts)
		}
		if got := heap.Merge(l); !slices.IsSorted(got) {
			t.Fatalf("Merge(%q): %q is not in order", l, got)
		}
	})
}
