package tree_test

import (
	"fmt"
	"math/rand"
	"slices"
	"strings"
	"sync"
	"testing"

	"barbican/tree"
)

// told is what the words of TE1 tell of a tree: its keys in order, and the value of each.
type told struct {
	keys   []string
	values map[string]int
}

// nothing is told of a new tree.
func nothing() *told { return &told{values: map[string]int{}} }

// put is Put by the words.
func (m *told) put(key string, v int) (int, bool) {
	had, there := m.values[key]
	m.values[key] = v
	if !there {
		i, _ := slices.BinarySearch(m.keys, key)
		m.keys = slices.Insert(m.keys, i, key)
	}
	return had, there
}

// drop is Drop by the words.
func (m *told) drop(key string) (int, bool) {
	had, there := m.values[key]
	delete(m.values, key)
	m.keys = slices.DeleteFunc(m.keys, func(k string) bool { return k == key })
	return had, there
}

// from is From by the words: the first of the keys in order that lies there.
func (m *told) from(key string, behind bool) (string, int, bool) {
	for _, k := range m.keys {
		if k > key || k == key && !behind {
			return k, m.values[k], true
		}
	}
	return "", 0, false
}

// to is To by the words: the last of the keys in order that lies there.
func (m *told) to(key string, ahead bool) (string, int, bool) {
	for _, k := range slices.Backward(m.keys) {
		if k < key || k == key && !ahead {
			return k, m.values[k], true
		}
	}
	return "", 0, false
}

// copied is the same, apart.
func (m *told) copied() *told {
	other := nothing()
	for _, k := range m.keys {
		other.put(k, m.values[k])
	}
	return other
}

// bound is how many rows TE4 lets a tree of n keys have.
func bound(n int) int {
	rows := 0
	for left := (n + 1) / 2; left > 0; left /= 4 {
		rows++
	}
	return rows
}

// badShape is what is wrong with a shape of n keys by TE3 and TE4, empty if nothing is.
func badShape(shape [][]int, n int) string {
	if len(shape) > bound(n) {
		return fmt.Sprintf("%d rows, more than %d", len(shape), bound(n))
	}
	sum, nodes := 0, 1
	for i, row := range shape {
		if len(row) != nodes {
			return fmt.Sprintf("row %d has %d nodes, not the %d children of the row ahead", i, len(row), nodes)
		}
		for _, count := range row {
			if count > 7 || count < 1 || i > 0 && count < 3 {
				return fmt.Sprintf("a node of row %d has %d keys", i, count)
			}
			sum += count
			nodes += count // each of them has one child more than keys
		}
	}
	if sum != n {
		return fmt.Sprintf("%d keys in all, not %d", sum, n)
	}
	return ""
}

// shaped holds a tree's shape against TE3 and TE4.
func shaped[V any](t *testing.T, x *tree.Tree[V], n int, how string) {
	t.Helper()
	if bad := badShape(x.Shape(), n); bad != "" {
		t.Fatalf("%s: Shape: %v: %s", how, x.Shape(), bad)
	}
}

// entry is three results of a call, to be held against others.
type entry[V any] struct {
	key   string
	value V
	there bool
}

// is packs three results.
func is[V any](key string, v V, there bool) entry[V] { return entry[V]{key, v, there} }

// gives holds what a call answers about a key against what is wanted.
func gives[V comparable](t *testing.T, got, want entry[V], how string) {
	t.Helper()
	if got != want {
		t.Fatalf("%s: %q %v %v, not %q %v %v", how, got.key, got.value, got.there, want.key, want.value, want.there)
	}
}

// has packs the two results of Put, Get or Drop.
func has[V any](v V, there bool) entry[V] { return entry[V]{"", v, there} }

// holds asks a tree for its keys, and for its ends.
func holds(t *testing.T, x *tree.Tree[int], m *told, how string) {
	t.Helper()
	if got := x.Keys(); !slices.Equal(got, m.keys) {
		t.Fatalf("%s: Keys: %q, not %q", how, got, m.keys)
	}
	if got := x.Len(); got != len(m.keys) {
		t.Fatalf("%s: Len: %d, not %d", how, got, len(m.keys))
	}
	gives(t, is(x.First()), is(m.from("", false)), how+": First")
	gives(t, is(x.Last()), is(m.to(strings.Repeat("\xff", 99), false)), how+": Last")
	shaped(t, x, len(m.keys), how)
}

// asked asks a tree for all that it tells of a text.
func asked(t *testing.T, x *tree.Tree[int], m *told, key, how string) {
	t.Helper()
	v, there := m.values[key]
	gives(t, has(x.Get(key)), has(v, there), fmt.Sprintf("%s: Get(%q)", how, key))
	for _, open := range []bool{false, true} {
		gives(t, is(x.From(key, open)), is(m.from(key, open)), fmt.Sprintf("%s: From(%q, %v)", how, key, open))
		gives(t, is(x.To(key, open)), is(m.to(key, open)), fmt.Sprintf("%s: To(%q, %v)", how, key, open))
	}
}

// about are texts at each key, between it and its neighbours, below the least and above the greatest.
func about(keys []string) []string {
	out := []string{"", "\x00", strings.Repeat("\xff", 50)}
	for _, k := range keys {
		out = append(out, k, k+"\x00", k+"\xff", k[:len(k)/2])
		if k != "" {
			last := len(k) - 1
			out = append(out, k[:last], k[:last]+string([]byte{k[last] - 1, 0xff}), k[:last]+string([]byte{k[last] + 1}))
		}
	}
	return out
}

// tells asks a tree for all that it tells.
func tells(t *testing.T, x *tree.Tree[int], m *told, how string) {
	t.Helper()
	holds(t, x, m, how)
	for _, key := range about(m.keys) {
		asked(t, x, m, key, how)
	}
}

// step is a call that changes a tree.
type step struct {
	drop  bool
	key   string
	value int
}

// String is a step as it is written.
func (s step) String() string {
	if s.drop {
		return fmt.Sprintf("Drop(%q)", s.key)
	}
	return fmt.Sprintf("Put(%q, %d)", s.key, s.value)
}

// do does a step to a tree.
func (s step) do(x *tree.Tree[int]) (int, bool) {
	if s.drop {
		return x.Drop(s.key)
	}
	return x.Put(s.key, s.value)
}

// by does a step to what the words tell.
func (s step) by(m *told) (int, bool) {
	if s.drop {
		return m.drop(s.key)
	}
	return m.put(s.key, s.value)
}

// follows does steps to a tree and by the words, and holds them against each other behind each.
func follows(t *testing.T, x *tree.Tree[int], m *told, steps []step, how string) {
	t.Helper()
	for i, s := range steps {
		at := fmt.Sprintf("%s: step %d, %v", how, i, s)
		gives(t, has(s.do(x)), has(s.by(m)), at)
		holds(t, x, m, at)
		asked(t, x, m, s.key, at)
	}
}

// puts are steps that put keys, with values from a number on.
func puts(keys []string, from int) []step {
	var out []step
	for i, k := range keys {
		out = append(out, step{key: k, value: from + i})
	}
	return out
}

// drops are steps that drop keys.
func drops(keys []string) []step {
	var out []step
	for _, k := range keys {
		out = append(out, step{drop: true, key: k})
	}
	return out
}

// numbered are n keys in order.
func numbered(n int) []string {
	out := make([]string, n)
	for i := range out {
		out[i] = fmt.Sprintf("%05d", i)
	}
	return out
}

// strung are all texts of up to n of some bytes, in order: one begins with the other, and the empty one is among them.
func strung(n int, of ...string) []string {
	out := []string{""}
	for from := 0; n > 0; n-- {
		ahead := out[from:]
		from = len(out)
		for _, s := range ahead {
			for _, b := range of {
				out = append(out, s+b)
			}
		}
	}
	slices.Sort(out)
	return out
}

// way is an order in which keys are put or dropped.
type way struct {
	name string
	of   func(keys []string) []string
}

// backwards is the other way round.
func backwards(keys []string) []string {
	out := slices.Clone(keys)
	slices.Reverse(out)
	return out
}

// mixed is some other order, always the same one.
func mixed(keys []string) []string {
	out := slices.Clone(keys)
	rand.New(rand.NewSource(int64(len(keys)))).Shuffle(len(out), func(i, j int) { out[i], out[j] = out[j], out[i] })
	return out
}

// fromTheMiddle takes the middle first and the ends last.
func fromTheMiddle(keys []string) []string {
	var out []string
	for i := range keys {
		at := len(keys)/2 + (i+1)/2
		if i%2 == 1 {
			at = len(keys)/2 - (i+1)/2
		}
		out = append(out, keys[(at+len(keys))%len(keys)])
	}
	return out
}

// ways are the orders that runs go by.
func ways() []way {
	return []way{{"in order", slices.Clone[[]string]}, {"backwards", backwards}, {"mixed", mixed}, {"from the middle", fromTheMiddle}}
}

// grown is a tree of keys, each with its place as its value, put in some order.
func grown(keys []string, w way) (*tree.Tree[int], *told) {
	x, m := tree.New[int](), nothing()
	for _, k := range w.of(keys) {
		at, _ := slices.BinarySearch(keys, k)
		x.Put(k, at)
		m.put(k, at)
	}
	return x, m
}

func TestTheRunsHaveAllKeys(t *testing.T) {
	for n := range 20 {
		for _, w := range ways() {
			got := w.of(numbered(n))
			slices.Sort(got)
			if !slices.Equal(got, numbered(n)) {
				t.Errorf("%s of %d: %q", w.name, n, got)
			}
		}
	}
}

func TestTE1New(t *testing.T) {
	x := tree.New[int]()
	if x == nil {
		t.Fatal("New: nil")
	}
	tells(t, x, nothing(), "New")
	if got := x.Keys(); len(got) != 0 {
		t.Errorf("Keys: %q", got)
	}
	if got := x.Shape(); len(got) != 0 {
		t.Errorf("Shape: %v", got)
	}
}

func TestTE1PutGetDrop(t *testing.T) {
	x := tree.New[int]()
	for i, c := range []struct {
		call  string
		key   string
		value int
		want  entry[int]
		keys  string
	}{
		{"Get", "b", 0, has(0, false), ""},
		{"Drop", "b", 0, has(0, false), ""},
		{"Put", "b", 5, has(0, false), "b"},
		{"Get", "b", 0, has(5, true), "b"},
		{"Get", "a", 0, has(0, false), "b"},
		{"Put", "b", 6, has(5, true), "b"},
		{"Put", "b", 6, has(6, true), "b"},
		{"Put", "b", 0, has(6, true), "b"}, // the zero value is a value
		{"Get", "b", 0, has(0, true), "b"},
		{"Put", "b", 7, has(0, true), "b"},
		{"Put", "a", 8, has(0, false), "a b"},
		{"Put", "c", 9, has(0, false), "a b c"},
		{"Drop", "bb", 0, has(0, false), "a b c"},
		{"Drop", "b", 0, has(7, true), "a c"},
		{"Drop", "b", 0, has(0, false), "a c"},
		{"Get", "b", 0, has(0, false), "a c"},
		{"Put", "b", 0, has(0, false), "a b c"},
		{"Drop", "b", 0, has(0, true), "a c"},
		{"Put", "b", 1, has(0, false), "a b c"}, // not what it had ahead of the Drop
		{"Drop", "a", 0, has(8, true), "b c"},
		{"Drop", "c", 0, has(9, true), "b"},
		{"Drop", "b", 0, has(1, true), ""},
		{"Drop", "b", 0, has(0, false), ""},
		{"Put", "b", 2, has(0, false), "b"},
		{"Get", "b", 0, has(2, true), "b"},
	} {
		how := fmt.Sprintf("%d: %s(%q, %d)", i, c.call, c.key, c.value)
		switch c.call {
		case "Put":
			gives(t, has(x.Put(c.key, c.value)), c.want, how)
		case "Get":
			gives(t, has(x.Get(c.key)), c.want, how)
		case "Drop":
			gives(t, has(x.Drop(c.key)), c.want, how)
		}
		if got := x.Keys(); strings.Join(got, " ") != c.keys {
			t.Fatalf("%s: Keys: %q, not %q", how, got, c.keys)
		}
		if got := x.Len(); got != len(strings.Fields(c.keys)) {
			t.Fatalf("%s: Len: %d", how, got)
		}
	}
}

// Keys are ordered byte by byte, whatever the bytes are, and each is there once.
func TestTE1Texts(t *testing.T) {
	long := strings.Repeat("x", 5000)
	texts := []string{"", "\x00", "\x00\x00", "\x00\x01", "\x01", " ", "-1", "0", "1", "10", "2", "9", "A", "B", "a", "a\x00", "a\x00b", "aa", "ab", "abc", "b", long, long + "\x00", long + "a", long + "b", "\x7f", "\x80", "\xc3", "\xc3\xa9", "é!", "\xef\xbf\xbd", "\xff", "\xff\x00", "\xff\xff"}
	if !slices.IsSortedFunc(texts, strings.Compare) || len(slices.Compact(slices.Clone(texts))) != len(texts) {
		t.Fatal("the texts of this test are not in order")
	}
	for _, w := range ways() {
		x, m := tree.New[int](), nothing()
		follows(t, x, m, puts(w.of(texts), 1), w.name)
		if got := x.Keys(); !slices.Equal(got, texts) {
			t.Fatalf("%s: Keys: %q", w.name, got)
		}
		tells(t, x, m, w.name)
		follows(t, x, m, puts(w.of(texts), 0), w.name+", put again")
		follows(t, x, m, drops(backwards(w.of(texts))), w.name+", dropped")
	}
}

func TestTE1EveryByte(t *testing.T) {
	var keys []string
	for i := range 256 {
		keys = append(keys, string([]byte{byte(i)}))
	}
	for _, w := range ways() {
		x, m := grown(keys, w)
		if got := x.Keys(); !slices.Equal(got, keys) {
			t.Fatalf("%s: Keys: %q", w.name, got)
		}
		tells(t, x, m, w.name)
	}
}

// sizes are how many keys the runs have: none, one, as many as a node holds, one more, such about which rows come and go, and many hundreds.
func sizes() []int {
	return []int{0, 1, 2, 3, 4, 6, 7, 8, 9, 10, 15, 16, 17, 31, 32, 39, 40, 63, 64, 100, 200, 700}
}

// All keys are put, put again, dropped and put once more, each in each order. TE2, TE3 and TE4 are held behind each step too.
func TestTE1TE2TE3TE4Runs(t *testing.T) {
	for _, n := range sizes() {
		for _, in := range ways() {
			for _, out := range ways() {
				if n > 200 && (in.name == "from the middle") != (out.name == "from the middle") {
					continue
				}
				how := fmt.Sprintf("%d keys put %s, dropped %s", n, in.name, out.name)
				keys := numbered(n)
				x, m := tree.New[int](), nothing()
				follows(t, x, m, puts(in.of(keys), 1), how)
				follows(t, x, m, puts(out.of(keys), -n/2), how+", put again")
				follows(t, x, m, drops(out.of(keys)), how)
				tells(t, x, m, how+", dropped")
				follows(t, x, m, puts(out.of(keys), 7), how+", put behind the drops")
				if n <= 100 {
					tells(t, x, m, how+", put behind the drops")
				}
			}
		}
	}
}

// The same with texts of which one begins with the other.
func TestTE1TE2TE3TE4RunsOfTexts(t *testing.T) {
	keys := strung(5, "\x00", "a", "\xff")
	for _, in := range ways() {
		for _, out := range ways() {
			how := "put " + in.name + ", dropped " + out.name
			x, m := tree.New[int](), nothing()
			follows(t, x, m, puts(in.of(keys), 1), how)
			follows(t, x, m, drops(out.of(keys)[:len(keys)/2]), how)
			follows(t, x, m, puts(in.of(keys), 1000), how+", put again")
			follows(t, x, m, drops(out.of(keys)), how)
		}
	}
}

// From trees of every size each key is dropped alone, and each key that is not there is put alone.
func TestTE1TE3EachKeyAlone(t *testing.T) {
	for n := range 90 {
		for _, w := range ways() {
			keys := numbered(n)
			_, m := grown(keys, w)
			for i, key := range append(keys, "00000x") {
				for _, s := range []step{{true, key, 0}, {true, key + "!", 0}, {false, key + "!", 5}, {false, "/" + key, 5}} {
					how := fmt.Sprintf("%d keys %s: %v (%d)", n, w.name, s, i)
					x, _ := grown(keys, w)
					one := m.copied()
					gives(t, has(s.do(x)), has(s.by(one)), how)
					holds(t, x, one, how)
					asked(t, x, one, key, how)
				}
			}
		}
	}
}

// Puts and drops come mixed, with many drops of what is not there; the tree grows and shrinks again and again.
func TestTE1TE2TE3TE4Mixed(t *testing.T) {
	for seed := range int64(30) {
		chance := rand.New(rand.NewSource(seed))
		x, m := tree.New[int](), nothing()
		keys := []int{12, 40, 150, 500}[seed%4]
		for round := range 6 {
			var steps []step
			for range 150 {
				steps = append(steps, step{
					drop:  chance.Intn(10) < 2+5*(round%2),
					key:   fmt.Sprint(chance.Intn(keys)),
					value: chance.Intn(3),
				})
			}
			how := fmt.Sprintf("seed %d, round %d", seed, round)
			follows(t, x, m, steps, how)
			tells(t, x, m, how)
		}
	}
}

func TestTE2FromAndTo(t *testing.T) {
	x := tree.New[int]()
	for i, k := range []string{"b", "d", "ff"} {
		x.Put(k, i+1)
	}
	b, d, ff, none := is("b", 1, true), is("d", 2, true), is("ff", 3, true), is("", 0, false)
	for _, c := range []struct {
		key                       string
		from, behind, upTo, ahead entry[int]
	}{
		{"", b, b, none, none},
		{"a", b, b, none, none},
		{"a\xff", b, b, none, none},
		{"b", b, d, b, none},
		{"b\x00", d, d, b, b},
		{"c", d, d, b, b},
		{"d", d, ff, d, b},
		{"e", ff, ff, d, d},
		{"f", ff, ff, d, d},
		{"fe", ff, ff, d, d},
		{"ff", ff, none, ff, d},
		{"ff\x00", none, none, ff, ff},
		{"fff", none, none, ff, ff},
		{"g", none, none, ff, ff},
		{"\xff", none, none, ff, ff},
	} {
		gives(t, is(x.From(c.key, false)), c.from, "From "+c.key)
		gives(t, is(x.From(c.key, true)), c.behind, "From behind "+c.key)
		gives(t, is(x.To(c.key, false)), c.upTo, "To "+c.key)
		gives(t, is(x.To(c.key, true)), c.ahead, "To ahead of "+c.key)
	}
	gives(t, is(x.First()), b, "First")
	gives(t, is(x.Last()), ff, "Last")
}

// The empty text can be a key: then it is the least one, and is told with true.
func TestTE2TheEmptyText(t *testing.T) {
	x := tree.New[int]()
	x.Put("", 0)
	empty, none := is("", 0, true), is("", 0, false)
	gives(t, is(x.First()), empty, "First")
	gives(t, is(x.Last()), empty, "Last")
	gives(t, is(x.From("", false)), empty, "From")
	gives(t, is(x.From("", true)), none, "From behind")
	gives(t, is(x.To("", false)), empty, "To")
	gives(t, is(x.To("", true)), none, "To ahead")
	gives(t, is(x.To("\x00", true)), empty, "To ahead of 0")
	x.Put("\x00", 1)
	gives(t, is(x.From("", true)), is("\x00", 1, true), "From behind")
	gives(t, is(x.Last()), is("\x00", 1, true), "Last")
	gives(t, has(x.Drop("")), has(0, true), "Drop")
	gives(t, is(x.First()), is("\x00", 1, true), "First")
}

func TestTE2NoKeys(t *testing.T) {
	x := tree.New[int]()
	for _, how := range []string{"new", "all dropped"} {
		gives(t, is(x.First()), is("", 0, false), how+": First")
		gives(t, is(x.Last()), is("", 0, false), how+": Last")
		for _, key := range []string{"", "a", "\xff"} {
			asked(t, x, nothing(), key, how)
		}
		for _, k := range numbered(50) {
			x.Put(k, 1)
		}
		for _, k := range numbered(50) {
			x.Drop(k)
		}
	}
}

// At each key, between two, below the least and above the greatest.
func TestTE2EveryPlace(t *testing.T) {
	for _, n := range append(sizes(), 5, 25, 150, 300) {
		for _, w := range ways() {
			x, m := grown(numbered(n), w)
			tells(t, x, m, fmt.Sprintf("%d keys %s", n, w.name))
		}
	}
	for _, w := range ways() {
		x, m := grown(strung(4, "\x00", "a", "\xff"), w)
		tells(t, x, m, "texts "+w.name)
	}
}

// Whoever goes from key to key comes by all of them, in both directions.
func TestTE2FromKeyToKey(t *testing.T) {
	keys := numbered(1000)
	for _, w := range ways() {
		x, _ := grown(keys, w)
		var up, down []string
		for k, v, there := x.First(); there; k, v, there = x.From(k, true) {
			if k != keys[v] {
				t.Fatalf("%s: %s has %d", w.name, k, v)
			}
			up = append(up, k)
		}
		for k, v, there := x.Last(); there; k, v, there = x.To(k, true) {
			if k != keys[v] {
				t.Fatalf("%s: %s has %d", w.name, k, v)
			}
			down = append(down, k)
		}
		if !slices.Equal(up, keys) || !slices.Equal(down, backwards(keys)) {
			t.Fatalf("%s: %q, %q", w.name, up, down)
		}
	}
}

func TestTE3Example(t *testing.T) {
	x := tree.New[int]()
	for i := range 7 {
		x.Put(fmt.Sprint(i), i)
		if got := fmt.Sprint(x.Shape()); got != fmt.Sprintf("[[%d]]", i+1) {
			t.Errorf("%d keys: %s", i+1, got)
		}
	}
	x.Put("7", 7)
	got := x.Shape()
	if len(got) != 2 || !slices.Equal(got[0], []int{1}) || len(got[1]) != 2 || got[1][0]+got[1][1] != 7 {
		t.Errorf("8 keys: %v", got)
	}
	shaped(t, x, 8, "8 keys")
}

// A shape that TE3 or TE4 rules out is not let through by the tests.
func TestTE3TheTestsTell(t *testing.T) {
	good := [][][]int{nil, {{1}}, {{7}}, {{1}, {3, 4}}, {{1}, {7, 7}}, {{2}, {3, 3, 3}}, {{1}, {3, 3}, {3, 3, 3, 3, 3, 3, 3, 3}}}
	bad := [][][]int{{{0}}, {{8}}, {{}}, {nil}, {{1, 1}}, {{1}, {2, 5}}, {{1}, {8, 3}}, {{1}, {7}}, {{2}, {3, 4}}, {{0}, {7}}, {{1}, {3, 3}, {3, 3, 3, 3}}, {{1}, {3}, {3}}}
	sum := func(shape [][]int) int {
		n := 0
		for _, row := range shape {
			for _, count := range row {
				n += count
			}
		}
		return n
	}
	for _, shape := range good {
		if got := badShape(shape, sum(shape)); got != "" {
			t.Errorf("%v: %s", shape, got)
		}
		if badShape(shape, sum(shape)+1) == "" {
			t.Errorf("%v goes for one more", shape)
		}
	}
	for _, shape := range bad {
		if badShape(shape, sum(shape)) == "" {
			t.Errorf("%v goes", shape)
		}
	}
}

func TestTE4Bound(t *testing.T) {
	for n, want := range map[int]int{0: 0, 1: 1, 2: 1, 6: 1, 7: 2, 8: 2, 30: 2, 31: 3, 126: 3, 127: 4, 511: 5, 2047: 6} {
		if got := bound(n); got != want {
			t.Errorf("%d keys: %d rows, not %d", n, got, want)
		}
	}
}

// Rows stay few in great trees, as they grow and as they shrink.
func TestTE3TE4GreatTrees(t *testing.T) {
	const n = 1 << 16
	keys := numbered(n)
	for _, w := range ways() {
		x := tree.New[int]()
		for i, k := range w.of(keys) {
			if had, there := x.Put(k, i+1); had != 0 || there {
				t.Fatalf("%s: Put(%q): %d, %v", w.name, k, had, there)
			}
			if i%1000 == 0 || i == n-1 {
				shaped(t, x, i+1, w.name)
			}
		}
		if got := x.Keys(); !slices.Equal(got, keys) {
			t.Fatalf("%s: Keys", w.name)
		}
		out := mixed(w.of(keys))
		for i, k := range out {
			if had, there := x.Drop(k); had == 0 || !there {
				t.Fatalf("%s: Drop(%q): %d, %v", w.name, k, had, there)
			}
			if i%1000 == 0 || i > n-100 {
				shaped(t, x, n-1-i, w.name)
			}
		}
		tells(t, x, nothing(), w.name)
	}
}

// What one side does is not told by the other side, nor by a clone of the clone.
func TestTE4Clone(t *testing.T) {
	for _, n := range append(sizes(), 2000) {
		keys := numbered(n)
		others := []string{"", "00003!", "x", "y", "z"}
		x, m := grown(keys, ways()[2])
		was := x.Shape()
		for _, side := range []string{"the clone", "the first one"} {
			clone := x.Clone()
			if clone == nil || clone == x {
				t.Fatalf("%d keys: Clone: %p of %p", n, clone, x)
			}
			third, thirdShape := clone.Clone(), fmt.Sprint(was)
			holds(t, clone, m, "a clone")
			if got := clone.Shape(); fmt.Sprint(got) != fmt.Sprint(was) {
				t.Fatalf("%d keys: a clone's shape: %v, not %v", n, got, was)
			}
			changed, still := clone, x
			if side == "the first one" {
				changed, still = x, clone
			}
			one := m.copied()
			for _, s := range slices.Concat(puts(others, 9), puts(keys[:n/3], 1000), drops(mixed(keys)[:n/2]), drops(others[:2])) {
				gives(t, has(s.do(changed)), has(s.by(one)), side)
			}
			holds(t, changed, one, side)
			holds(t, still, m, side+" changed: the other one")
			holds(t, third, m, side+" changed: a third one")
			for _, k := range keys {
				v, there := m.values[k]
				gives(t, has(still.Get(k)), has(v, there), side+" changed: the other one")
				gives(t, has(third.Get(k)), has(v, there), side+" changed: a third one")
			}
			if got := fmt.Sprint(still.Shape()); got != fmt.Sprint(was) {
				t.Fatalf("%d keys: %s changed: the other one's shape: %s, not %v", n, side, got, was)
			}
			if got := fmt.Sprint(third.Shape()); got != thirdShape {
				t.Fatalf("%d keys: %s changed: a third one's shape: %s", n, side, got)
			}
		}
	}
}

// Behind a Clone both sides take every single change alone: none of them is seen on the other side.
func TestTE4CloneEachChange(t *testing.T) {
	for _, n := range []int{0, 1, 7, 8, 40, 64} {
		keys := numbered(n)
		x, m := grown(keys, ways()[0])
		was := fmt.Sprint(x.Shape())
		for _, k := range append(keys, "x") {
			for _, s := range []step{{true, k, 0}, {false, k, -5}, {false, k + "!", -5}} {
				for _, clones := range []bool{true, false} {
					one, other := x.Clone(), x
					if !clones {
						one, _ = grown(keys, ways()[0])
						other = one.Clone()
					}
					s.do(one)
					how := fmt.Sprintf("%d keys, %v", n, s)
					holds(t, other, m, how)
					asked(t, other, m, k, how)
					if got := fmt.Sprint(other.Shape()); got != was {
						t.Fatalf("%s: Shape: %s, not %s", how, got, was)
					}
				}
			}
		}
	}
}

// A clone of an empty tree takes keys of its own.
func TestTE4CloneOfNone(t *testing.T) {
	x := tree.New[int]()
	clone := x.Clone()
	clone.Put("a", 1)
	x.Put("b", 2)
	gives(t, is(clone.First()), is("a", 1, true), "the clone")
	gives(t, is(clone.Last()), is("a", 1, true), "the clone")
	gives(t, is(x.First()), is("b", 2, true), "the first one")
	gives(t, is(x.Last()), is("b", 2, true), "the first one")
	if x.Len() != 1 || clone.Len() != 1 {
		t.Errorf("Len: %d, %d", x.Len(), clone.Len())
	}
}

func TestTE4Nil(t *testing.T) {
	var x *tree.Tree[int]
	for range 2 {
		tells(t, x, nothing(), "nil")
		for _, key := range []string{"", "a", "\xff"} {
			asked(t, x, nothing(), key, "nil")
			gives(t, has(x.Put(key, 5)), has(0, false), "nil: Put")
			gives(t, has(x.Get(key)), has(0, false), "nil: Get")
			gives(t, has(x.Drop(key)), has(0, false), "nil: Drop")
		}
		if len(x.Keys()) != 0 || len(x.Shape()) != 0 || x.Len() != 0 {
			t.Errorf("nil: %q, %v, %d", x.Keys(), x.Shape(), x.Len())
		}
	}
	// A nil tree is an empty one, so its clone is what the clone of an empty one is: a tree of its own.
	clone := x.Clone()
	tells(t, clone, nothing(), "nil: Clone")
	clone.Put("a", 1)
	gives(t, has(clone.Get("a")), has(1, true), "nil: Clone")
	tells(t, x, nothing(), "nil, behind Clone")
}

// typed uses a tree with values of some type; the values must differ, and none be zero.
func typed[V comparable](t *testing.T, values ...V) {
	t.Helper()
	var zero V
	how := fmt.Sprintf("%T", zero)
	x := tree.New[V]()
	keys := numbered(100)
	of := func(i int) V { return values[i%len(values)] }
	gives(t, has(x.Get("a")), has(zero, false), how)
	gives(t, has(x.Drop("a")), has(zero, false), how)
	gives(t, is(x.First()), is("", zero, false), how)
	gives(t, is(x.Last()), is("", zero, false), how)
	for i, k := range mixed(keys) {
		gives(t, has(x.Put(k, zero)), has(zero, false), how)
		gives(t, has(x.Put(k, of(i))), has(zero, true), how)
		shaped(t, x, i+1, how)
	}
	for i, k := range mixed(keys) {
		gives(t, has(x.Get(k)), has(of(i), true), how)
		gives(t, is(x.From(k, false)), is(k, of(i), true), how)
		gives(t, is(x.To(k, false)), is(k, of(i), true), how)
	}
	gives(t, is(x.From("x", false)), is("", zero, false), how)
	gives(t, is(x.To("", true)), is("", zero, false), how)
	clone := x.Clone()
	for i, k := range mixed(keys) {
		gives(t, has(x.Drop(k)), has(of(i), true), how)
		gives(t, has(x.Drop(k)), has(zero, false), how)
		gives(t, has(clone.Get(k)), has(of(i), true), how)
		shaped(t, x, len(keys)-1-i, how)
	}
	var none *tree.Tree[V]
	gives(t, has(none.Put("a", of(0))), has(zero, false), how)
	gives(t, has(none.Get("a")), has(zero, false), how)
	gives(t, is(none.Last()), is("", zero, false), how)
}

func TestTE1ValuesOfEachType(t *testing.T) {
	one, two := 1, 1
	typed(t, 1, 2, -3)
	typed(t, "a", "b", "a\x00")
	typed(t, true)
	typed(t, 1.5, -2.5)
	typed(t, [2]string{"a"}, [2]string{"", "a"})
	typed(t, struct {
		n int
		s string
	}{1, "a"}, struct {
		n int
		s string
	}{s: "b"})
	typed(t, &one, &two)
	typed(t, tree.New[int](), tree.New[int]())
	typed[any](t, 1, "1", nil, &one)
	typed[error](t, fmt.Errorf("a"), fmt.Errorf("b"))
	typed(t, struct{}{})
}

// Values that can't be held against each other are handed out as they were put in: lists, maps and functions.
func TestTE1ValuesThatAreNotCompared(t *testing.T) {
	lists, maps, calls := tree.New[[]byte](), tree.New[map[string]int](), tree.New[func() int]()
	for i, k := range mixed(numbered(60)) {
		lists.Put(k, []byte(k))
		maps.Put(k, map[string]int{k: i})
		calls.Put(k, func() int { return i })
	}
	for i, k := range mixed(numbered(60)) {
		list, there := lists.Get(k)
		if string(list) != k || !there {
			t.Fatalf("a list: %q, %v, not %q", list, there, k)
		}
		if _, m, there := maps.From(k, false); !there || m[k] != i {
			t.Fatalf("a map: %v, %v", m, there)
		}
		call, there := calls.Drop(k)
		if !there || call() != i {
			t.Fatalf("a function: %v", there)
		}
		if call, there = calls.Get(k); call != nil || there {
			t.Fatalf("a function that was dropped: %v", there)
		}
	}
}

// spoil writes over a list and its spare room.
func spoil[T any](l []T, with T) {
	l = l[:cap(l)]
	for i := range l {
		l[i] = with
	}
}

// The lists that are answered can be changed: neither the tree nor another answer does.
func TestP7AnswersAreNew(t *testing.T) {
	for _, n := range sizes() {
		x, m := grown(numbered(n), ways()[2])
		keys, shape := x.Keys(), x.Shape()
		was := fmt.Sprint(shape)
		spoil(x.Keys(), "spoiled")
		for _, row := range x.Shape() {
			spoil(row, -9)
		}
		spoil(x.Shape(), []int{-9})
		if !slices.Equal(keys, m.keys) {
			t.Errorf("%d keys: Keys became %q", n, keys)
		}
		if fmt.Sprint(shape) != was || fmt.Sprint(x.Shape()) != was {
			t.Errorf("%d keys: Shape became %v, %v", n, shape, x.Shape())
		}
		for i, row := range shape { // no row of an answer is room of another one
			others := fmt.Sprint(shape[:i], shape[i+1:])
			spoil(row, -9)
			if got := fmt.Sprint(shape[:i], shape[i+1:]); got != others {
				t.Errorf("%d keys: with row %d %s became %s", n, i, others, got)
			}
		}
		holds(t, x, m, "answers spoiled")
		follows(t, x, m, drops(m.copied().keys), "answers spoiled")
	}
}

// Asking changes nothing, its shape with it; neither does putting into another tree.
func TestP7Alone(t *testing.T) {
	x, m := grown(numbered(500), ways()[2])
	was := fmt.Sprint(x.Shape())
	other, _ := grown(numbered(100), ways()[1])
	for _, k := range numbered(300) {
		other.Put(k, -1)
		other.Drop(k)
	}
	tells(t, x, m, "one tree")
	tells(t, other, nothing(), "the other one")
	tells(t, tree.New[int](), nothing(), "a third one")
	if got := fmt.Sprint(x.Shape()); got != was {
		t.Errorf("Shape became %s, was %s", got, was)
	}
}

// The same steps answer the same, the shape with it.
func TestP7SameAgain(t *testing.T) {
	for seed := range int64(10) {
		chance := rand.New(rand.NewSource(seed))
		one, two := tree.New[int](), tree.New[int]()
		for i := range 1000 {
			s := step{chance.Intn(3) == 0, fmt.Sprint(chance.Intn(200)), i}
			gives(t, has(s.do(one)), has(s.do(two)), fmt.Sprint(s))
			if a, b := fmt.Sprint(one.Shape()), fmt.Sprint(two.Shape()); a != b {
				t.Fatalf("%v: Shape: %s, then %s", s, a, b)
			}
		}
	}
}

// A tree and its clones share nothing: each can be changed in a goroutine of its own.
func TestP7ClonesAtOnce(t *testing.T) {
	keys := numbered(300)
	x, m := grown(keys, ways()[2])
	clones := make([]*tree.Tree[int], 8)
	for i := range clones {
		clones[i] = x.Clone()
	}
	var all sync.WaitGroup
	for i, clone := range clones {
		all.Go(func() {
			for _, k := range keys {
				clone.Put(k, i)
				clone.Put(k+"!", i)
				clone.Drop(k)
			}
		})
	}
	all.Wait()
	holds(t, x, m, "the first one")
	for i, clone := range clones {
		if k, v, there := clone.First(); k != keys[0]+"!" || v != i || !there || clone.Len() != len(keys) {
			t.Errorf("clone %d: %q, %d, %v, %d keys", i, k, v, there, clone.Len())
		}
	}
}

func FuzzTree(f *testing.F) {
	f.Add([]byte{})
	f.Add([]byte("\x00a\x00b\x01a\x00c\x02\x00\x01b"))
	f.Add([]byte(strings.Join(mixed(numbered(100)), "\x00")))
	f.Fuzz(func(t *testing.T, b []byte) {
		x, m := tree.New[int](), nothing()
		kept, keptWords := x, m // a clone, from time to time
		for i := 0; len(b) >= 2 && i < 400; i++ {
			if b[0]%16 == 15 {
				kept, keptWords = x.Clone(), m.copied()
			}
			key := strings.Repeat(string(b[1:2]), int(b[0]/16)%3)
			follows(t, x, m, []step{{b[0]%3 == 1, key + string(b[1:2]), i}}, "fuzz")
			b = b[2:]
		}
		tells(t, x, m, "fuzz")
		tells(t, kept, keptWords, "a clone")
	})
}
