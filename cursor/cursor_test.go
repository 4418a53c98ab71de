package cursor_test

import (
	"fmt"
	"iter"
	"math/rand"
	"slices"
	"strings"
	"sync"
	"testing"

	"barbican/cursor"
	"barbican/order"
	"barbican/tree"
)

// side is one of a range's ends as it is written into it; open and text may stand there though it is not.
type side struct {
	text      string
	has, open bool
}

// made is a range of two sides.
func made(from, to side) cursor.Range {
	return cursor.Range{
		From: from.text, HasFrom: from.has, OpenFrom: from.open,
		To: to.text, HasTo: to.has, OpenTo: to.open,
	}
}

// at and open are sides that are there, none is one that is not.
func at(text string) side   { return side{text, true, false} }
func open(text string) side { return side{text, true, true} }

var none side

// texts are short and long ones, of which many begin with another one, in order.
func texts() []string {
	return []string{"", "\x00", "\x00\x00", "\x01", "a", "a\x00", "a\x00b", "ab", "abc", "a\xff", "b", "\x7f", "\x80", "\xc3\xa9", "\xfe\xff", "\xff", "\xff\x00", "\xff\xff"}
}

// fewTexts are those that ends are made of, where every two ranges are held against each other.
func fewTexts() []string { return []string{"", "\x00", "a", "a\x00", "ab", "\xff"} }

// sides are all ends of some texts, open and not, and such as are not there, with what is not looked at then.
func sides(of []string) []side {
	out := []side{none, {open: true}}
	for _, s := range of {
		out = append(out, at(s), open(s))
	}
	return append(out, side{text: of[len(of)/2]}, side{text: of[len(of)/2], open: true}, side{text: of[len(of)-1], open: true})
}

// ranges are all ranges of two such ends, the empty ones too.
func ranges(of []string) []cursor.Range {
	var out []cursor.Range
	for _, from := range sides(of) {
		for _, to := range sides(of) {
			out = append(out, made(from, to))
		}
	}
	return out
}

// strung are all texts of up to n of some bytes, in order.
func strung(n int, of ...string) []string {
	out := []string{""}
	for from := 0; n > 0; n-- {
		ahead := out[from:]
		from = len(out)
		for _, s := range ahead {
			for _, b := range of {
				out = append(out, s+b)
			}
		}
	}
	slices.Sort(out)
	return out
}

// lies tells by the chapter's words whether a key lies in a range.
func lies(r cursor.Range, key string) bool {
	if r.HasFrom {
		switch strings.Compare(key, r.From) {
		case -1:
			return false
		case 0:
			if r.OpenFrom {
				return false
			}
		}
	}
	if r.HasTo {
		switch strings.Compare(key, r.To) {
		case 1:
			return false
		case 0:
			if r.OpenTo {
				return false
			}
		}
	}
	return true
}

// told tells a range by its fields.
func told(r cursor.Range) string { return fmt.Sprintf("%+q", fmt.Sprintf("%+v", r)) }

func TestTheTextsAreInOrder(t *testing.T) {
	for _, l := range [][]string{texts(), fewTexts(), strung(3, "\x00", "a", "\xff")} {
		if !slices.IsSorted(l) || len(slices.Compact(slices.Clone(l))) != len(l) {
			t.Errorf("%q", l)
		}
	}
}

func TestCU1Has(t *testing.T) {
	for _, c := range []struct {
		from, to side
		in, out  []string
	}{
		{none, none, []string{"", "\x00", "a", "\xff\xff"}, nil},
		{at("b"), none, []string{"b", "b\x00", "ba", "c", "\xff"}, []string{"", "a", "a\xff", "B"}},
		{open("b"), none, []string{"b\x00", "ba", "c", "\xff"}, []string{"", "a", "a\xff", "b"}},
		{none, at("d"), []string{"", "a", "c\xff", "d"}, []string{"d\x00", "da", "e", "\xff"}},
		{none, open("d"), []string{"", "a", "c\xff"}, []string{"d", "d\x00", "da", "e", "\xff"}},
		{at("b"), at("d"), []string{"b", "b\x00", "c", "c\xff\xff", "d"}, []string{"", "a\xff", "d\x00", "e"}},
		{open("b"), at("d"), []string{"b\x00", "c", "d"}, []string{"a", "b", "d\x00", "e"}},
		{at("b"), open("d"), []string{"b", "b\x00", "c", "c\xff"}, []string{"a", "d", "d\x00", "e"}},
		{open("b"), open("d"), []string{"b\x00", "c", "c\xff"}, []string{"a", "b", "d", "e"}},
		{at("b"), at("b"), []string{"b"}, []string{"", "a", "b\x00", "c"}},
		{open("b"), at("b"), nil, []string{"", "a", "b", "b\x00", "c"}},
		{at("b"), open("b"), nil, []string{"", "a", "b", "b\x00", "c"}},
		{open("b"), open("b"), nil, []string{"", "a", "b", "b\x00", "c"}},
		{at("d"), at("b"), nil, []string{"", "a", "b", "c", "d", "e"}},
		{at(""), none, []string{"", "\x00", "a"}, nil},
		{open(""), none, []string{"\x00", "a", "\xff"}, []string{""}},
		{none, at(""), []string{""}, []string{"\x00", "a", "\xff"}},
		{none, open(""), nil, []string{"", "\x00", "a"}},
		{at(""), at(""), []string{""}, []string{"\x00", "a"}},
		{at("ab"), at("abcd"), []string{"ab", "ab\x00", "abc", "abcd"}, []string{"a", "aa", "abcd\x00", "abd", "ac"}},
		{at("\x7f"), at("\x80"), []string{"\x7f", "\x7f\xff", "\x80"}, []string{"~", "\x80\x00", "\xff", "é"}},
		{open("\xff"), none, []string{"\xff\x00", "\xff\xff"}, []string{"", "\xfe\xff", "\xff"}},
	} {
		r := made(c.from, c.to)
		for _, key := range c.in {
			if !cursor.Has(r, key) {
				t.Errorf("%s: %q does not lie in it", told(r), key)
			}
		}
		for _, key := range c.out {
			if cursor.Has(r, key) {
				t.Errorf("%s: %q lies in it", told(r), key)
			}
		}
	}
}

func TestCU1HasByTheWords(t *testing.T) {
	for _, r := range ranges(texts()) {
		for _, key := range append(texts(), "A", "a\x00a", "zz") {
			if got, want := cursor.Has(r, key), lies(r, key); got != want {
				t.Fatalf("%s: %q: %v", told(r), key, got)
			}
		}
	}
}

// Where an end is not there, what stands beside it is not looked at.
func TestCU1WhatIsNotThereIsNotLookedAt(t *testing.T) {
	for _, to := range sides(fewTexts()) {
		for _, from := range []side{{text: "b"}, {text: "b", open: true}, {open: true}, {text: "\xff\xff"}} {
			for _, pair := range [][2]cursor.Range{{made(from, to), made(none, to)}, {made(to, from), made(to, none)}} {
				dirty, clean := pair[0], pair[1]
				for _, key := range texts() {
					if got, want := cursor.Has(dirty, key), cursor.Has(clean, key); got != want {
						t.Fatalf("%s: Has(%q): %v", told(dirty), key, got)
					}
				}
				if cursor.Empty(dirty) {
					t.Fatalf("%s: Empty", told(dirty))
				}
				if got, want := cursor.Text(dirty), cursor.Text(clean); got != want {
					t.Fatalf("%s: Text: %s, not %s", told(dirty), got, want)
				}
				if got, want := cursor.Meet(dirty, cursor.One("a")), cursor.Meet(clean, cursor.One("a")); got != want {
					t.Fatalf("%s: Meet: %s, not %s", told(dirty), told(got), told(want))
				}
			}
		}
	}
}

func TestCU1Empty(t *testing.T) {
	for _, c := range []struct {
		from, to side
		want     bool
	}{
		{at("b"), at("a"), true},
		{open("b"), at("a"), true},
		{at("b"), open("a"), true},
		{open("b"), open("a"), true},
		{at("a\x00"), at("a"), true},
		{at("\x80"), at("\x7f"), true},
		{at("a"), at(""), true},
		{at("a"), at("a"), false},
		{open("a"), at("a"), true},
		{at("a"), open("a"), true},
		{open("a"), open("a"), true},
		{at(""), at(""), false},
		{open(""), at(""), true},
		{at(""), open(""), true},
		{at("a"), at("b"), false},
		{open("a"), at("b"), false},
		{at("a"), open("b"), false},
		{open("a"), open("b"), false},
		{open("a"), open("a\x00"), false}, // no key lies there, but the words ask for the ends alone
		{none, none, false},
		{at("b"), none, false},
		{open("b"), none, false},
		{none, at("a"), false},
		{none, open("a"), false},
		{none, open(""), false}, // as above
		{at("b"), side{text: "a"}, false},
		{open("b"), side{text: "b", open: true}, false},
		{side{text: "b"}, at("a"), false},
		{side{text: "b", open: true}, open("b"), false},
		{side{text: "b"}, side{text: "a"}, false},
		{side{text: "b", open: true}, side{text: "b", open: true}, false},
	} {
		if r := made(c.from, c.to); cursor.Empty(r) != c.want {
			t.Errorf("%s: Empty: %v", told(r), !c.want)
		}
	}
}

// No key lies in an empty range, and in each other one with both ends one lies, but where the greater end is next to the lesser one.
func TestCU1EmptyAndHas(t *testing.T) {
	for _, r := range ranges(texts()) {
		some := slices.ContainsFunc(append(texts(), r.From+"\x00"), func(key string) bool { return cursor.Has(r, key) })
		if cursor.Empty(r) && some {
			t.Fatalf("%s is empty, but a key lies in it", told(r))
		}
		ofNone := r.HasTo && r.OpenTo && r.To == "" || r.OpenFrom && r.OpenTo && r.To == r.From+"\x00"
		if !cursor.Empty(r) && !some && !ofNone {
			t.Fatalf("%s is not empty, but no key lies in it", told(r))
		}
	}
}

func TestCU1One(t *testing.T) {
	for _, key := range append(texts(), strings.Repeat("x", 5000)) {
		r := cursor.One(key)
		if r != made(at(key), at(key)) {
			t.Errorf("One(%q): %s", key, told(r))
		}
		if cursor.Empty(r) {
			t.Errorf("One(%q): empty", key)
		}
		for _, other := range append(texts(), key, key+"\x00") {
			if cursor.Has(r, other) != (other == key) {
				t.Errorf("One(%q): Has(%q): %v", key, other, other != key)
			}
		}
	}
}

func TestCU1Prefix(t *testing.T) {
	for _, c := range []struct {
		s  string
		to side
	}{
		{"", none},
		{"\xff", none},
		{"\xff\xff", none},
		{strings.Repeat("\xff", 300), none},
		{"\x00", open("\x01")},
		{"a", open("b")},
		{"ab", open("ac")},
		{"a\x00", open("a\x01")},
		{"a\xff", open("b")},
		{"a\xff\xff", open("b")},
		{"\xfe", open("\xff")},
		{"\xfe\xff", open("\xff")},
		{"\xff\x00", open("\xff\x01")},
		{"\xff\xfe\xff", open("\xff\xff")},
		{"\x7f", open("\x80")},
		{"\xc3\xa9", open("\xc3\xaa")},
		{"\xc3\xbf", open("\xc3\xc0")},
	} {
		if got, want := cursor.Prefix(c.s), made(at(c.s), c.to); got != want {
			t.Errorf("Prefix(%q): %s, not %s", c.s, told(got), told(want))
		}
	}
}

func TestCU1PrefixByNext(t *testing.T) {
	for _, s := range strung(4, "\x00", "a", "\xfe", "\xff") {
		to := none
		if next, ok := order.Next(s); ok {
			to = open(next)
		}
		if got, want := cursor.Prefix(s), made(at(s), to); got != want {
			t.Fatalf("Prefix(%q): %s, not %s", s, told(got), told(want))
		}
	}
}

func TestCU1Meet(t *testing.T) {
	for _, c := range []struct{ a, b, want cursor.Range }{
		{made(at("a"), at("c")), made(open("a"), at("b")), made(open("a"), at("b"))},
		{made(none, none), made(none, none), made(none, none)},
		{made(at("a"), none), made(none, at("b")), made(at("a"), at("b"))},
		{made(open("a"), none), made(none, open("b")), made(open("a"), open("b"))},
		{made(at("a"), none), made(at("b"), none), made(at("b"), none)},
		{made(open("a"), none), made(at("b"), none), made(at("b"), none)},
		{made(at("a"), none), made(open("b"), none), made(open("b"), none)},
		{made(at("a"), none), made(at("a"), none), made(at("a"), none)},
		{made(at("a"), none), made(open("a"), none), made(open("a"), none)},
		{made(open("a"), none), made(open("a"), none), made(open("a"), none)},
		{made(at("a"), none), made(open("a\x00"), none), made(open("a\x00"), none)},
		{made(at(""), none), made(none, none), made(at(""), none)},
		{made(open(""), none), made(at(""), none), made(open(""), none)},
		{made(at("\x7f"), none), made(at("\x80"), none), made(at("\x80"), none)},
		{made(none, at("a")), made(none, at("b")), made(none, at("a"))},
		{made(none, open("a")), made(none, at("b")), made(none, open("a"))},
		{made(none, at("a")), made(none, open("b")), made(none, at("a"))},
		{made(none, at("a")), made(none, open("a")), made(none, open("a"))},
		{made(none, open("a")), made(none, open("a")), made(none, open("a"))},
		{made(none, at("a\x00")), made(none, at("a")), made(none, at("a"))},
		{made(none, at("")), made(none, none), made(none, at(""))},
		{made(none, at("")), made(none, open("")), made(none, open(""))},
		{made(none, at("\x7f")), made(none, at("\x80")), made(none, at("\x7f"))},
		// Ranges without a key in common: the narrower ends all the same.
		{made(at("a"), at("b")), made(at("c"), at("d")), made(at("c"), at("b"))},
		{made(at("d"), at("a")), made(open("c"), open("b")), made(at("d"), at("a"))},
		// What is not there leaves nothing behind.
		{made(side{text: "x", open: true}, side{text: "y", open: true}), made(none, none), made(none, none)},
		{made(side{text: "x", open: true}, at("c")), made(at("b"), side{text: "a", open: true}), made(at("b"), at("c"))},
		{made(side{text: "x"}, side{text: "y"}), made(side{text: "x", open: true}, side{open: true}), made(none, none)},
		{cursor.Prefix("a"), cursor.One("ab"), cursor.One("ab")},
		{cursor.Prefix("a"), cursor.Prefix("ab"), cursor.Prefix("ab")},
		{cursor.Prefix(""), made(none, none), made(at(""), none)},
	} {
		for _, got := range []cursor.Range{cursor.Meet(c.a, c.b), cursor.Meet(c.b, c.a)} {
			if got != c.want {
				t.Errorf("Meet of %s and %s: %s, not %s", told(c.a), told(c.b), told(got), told(c.want))
			}
		}
	}
}

// met is an end of Meet by the words of CU1: of those that are there, put in order from the widest to the narrowest, the last.
func met(ends []side, ascending bool) side {
	ends = slices.DeleteFunc(slices.Clone(ends), func(e side) bool { return !e.has })
	if len(ends) == 0 {
		return none
	}
	slices.SortFunc(ends, func(a, b side) int {
		switch {
		case a.text != b.text && ascending == (a.text < b.text):
			return -1
		case a.text != b.text:
			return 1
		case a.open != b.open && b.open:
			return -1
		case a.open != b.open:
			return 1
		}
		return 0
	})
	return ends[len(ends)-1]
}

func TestCU1MeetByTheWords(t *testing.T) {
	all := ranges(fewTexts())
	for _, a := range all {
		for _, b := range all {
			from := met([]side{{a.From, a.HasFrom, a.OpenFrom}, {b.From, b.HasFrom, b.OpenFrom}}, true)
			to := met([]side{{a.To, a.HasTo, a.OpenTo}, {b.To, b.HasTo, b.OpenTo}}, false)
			got := cursor.Meet(a, b)
			if got != made(from, to) {
				t.Fatalf("Meet of %s and %s: %s, not %s", told(a), told(b), told(got), told(made(from, to)))
			}
			if other := cursor.Meet(b, a); other != got {
				t.Fatalf("Meet of %s and %s: %s, but exchanged %s", told(a), told(b), told(got), told(other))
			}
		}
	}
}

// A key lies in Meet just where it lies in both.
func TestCU4MeetIsBoth(t *testing.T) {
	all, keys := ranges(fewTexts()), texts()
	for _, a := range all {
		for _, b := range all {
			met := cursor.Meet(a, b)
			for _, key := range keys {
				if got, want := cursor.Has(met, key), cursor.Has(a, key) && cursor.Has(b, key); got != want {
					t.Fatalf("Meet of %s and %s: %s: Has(%q): %v", told(a), told(b), told(met), key, got)
				}
			}
		}
	}
}

// Met with itself, and with what has no ends, a range is the same, but for what was nothing; of three it is the same in either order.
func TestCU4MeetOfOneAndOfThree(t *testing.T) {
	all := ranges(fewTexts()[1:4])
	for _, a := range all {
		clean := cursor.Meet(a, cursor.Range{})
		if a.HasFrom && a.HasTo && clean != a {
			t.Fatalf("Meet of %s and of no ends: %s", told(a), told(clean))
		}
		if got := cursor.Meet(a, a); got != clean {
			t.Fatalf("Meet of %s and itself: %s, not %s", told(a), told(got), told(clean))
		}
		for _, b := range all {
			for _, c := range all {
				one, two := cursor.Meet(cursor.Meet(a, b), c), cursor.Meet(a, cursor.Meet(b, c))
				if one != two {
					t.Fatalf("Meet of %s, %s and %s: %s and %s", told(a), told(b), told(c), told(one), told(two))
				}
			}
		}
	}
}

// A key begins with s just where it lies in Prefix(s).
func TestCU4PrefixIsBegin(t *testing.T) {
	keys := slices.Concat(strung(4, "\x00", "a", "\xfe", "\xff"), texts(), []string{"abcabc", "b\x00", strings.Repeat("\xff", 99)})
	for _, s := range keys {
		r := cursor.Prefix(s)
		for _, key := range keys {
			if got := cursor.Has(r, key); got != strings.HasPrefix(key, s) {
				t.Fatalf("Prefix(%q): Has(%q): %v", s, key, got)
			}
		}
	}
}

// pair is a key with its value, as it is gone over.
type pair[V any] struct {
	key   string
	value V
}

// String is a pair as it is told, whatever bytes its key has.
func (p pair[V]) String() string { return fmt.Sprintf("%q with %v", p.key, p.value) }

// gone are the pairs that an iterator goes over.
func gone[V any](seq iter.Seq2[string, V]) []pair[V] {
	var out []pair[V]
	for k, v := range seq {
		out = append(out, pair[V]{k, v})
	}
	return out
}

// backwards is the other way round.
func backwards[T any](l []T) []T {
	out := slices.Clone(l)
	slices.Reverse(out)
	return out
}

// grown is a tree of keys, put in some order, each with a value of its own.
func grown[V any](keys []string, of func(string) V) *tree.Tree[V] {
	x := tree.New[V]()
	put := slices.Clone(keys)
	rand.New(rand.NewSource(int64(len(keys)))).Shuffle(len(put), func(i, j int) { put[i], put[j] = put[j], put[i] })
	for _, k := range put {
		x.Put(k, of(k))
	}
	return x
}

// digest is a value that hangs on all of a key, and differs for the keys of these tests.
func digest(key string) int {
	n := len(key)
	for i := range len(key) {
		n = n*257 + int(key[i])
	}
	return n
}

// goes holds what is gone over in a range against the tree's keys that lie there by the words.
func goes[V comparable](t *testing.T, x *tree.Tree[V], keys []string, of func(string) V, r cursor.Range) {
	t.Helper()
	var want []pair[V]
	for _, k := range keys {
		if lies(r, k) {
			want = append(want, pair[V]{k, of(k)})
		}
	}
	if got := gone(cursor.All(x, r)); !slices.Equal(got, want) {
		t.Fatalf("%d keys, %s: All: %v, not %v", len(keys), told(r), got, want)
	}
	if got := gone(cursor.Back(x, r)); !slices.Equal(got, backwards(want)) {
		t.Fatalf("%d keys, %s: Back: %v, not %v", len(keys), told(r), got, backwards(want))
	}
	if got := cursor.Count(x, r); got != len(want) {
		t.Fatalf("%d keys, %s: Count: %d, not %d", len(keys), told(r), got, len(want))
	}
}

// numbered are n keys in order, with room between them.
func numbered(n int) []string {
	out := make([]string, n)
	for i := range out {
		out[i] = fmt.Sprintf("%05d", 10*i)
	}
	return out
}

func TestCU2AllAndBack(t *testing.T) {
	x := tree.New[int]()
	for i, k := range []string{"b", "d", "f"} {
		x.Put(k, i+1)
	}
	for _, c := range []struct {
		from, to side
		want     string
	}{
		{none, none, "b1 d2 f3"},
		{at("b"), at("f"), "b1 d2 f3"},
		{at("b"), none, "b1 d2 f3"},
		{open("b"), none, "d2 f3"},
		{at("a"), none, "b1 d2 f3"},
		{at("c"), none, "d2 f3"},
		{open("c"), none, "d2 f3"},
		{at("f"), none, "f3"},
		{open("f"), none, ""},
		{at("g"), none, ""},
		{none, at("f"), "b1 d2 f3"},
		{none, open("f"), "b1 d2"},
		{none, at("e"), "b1 d2"},
		{none, at("b"), "b1"},
		{none, open("b"), ""},
		{none, at("a"), ""},
		{at("d"), at("d"), "d2"},
		{open("d"), at("d"), ""},
		{at("d"), open("d"), ""},
		{open("b"), open("f"), "d2"},
		{open("b"), at("f"), "d2 f3"},
		{at("b"), open("f"), "b1 d2"},
		{open("b"), open("d"), ""},
		{at("c"), at("e"), "d2"},
		{at("g"), at("z"), ""},
		{at(""), at("a"), ""},
		{at("f"), at("b"), ""},
		{at("d\x00"), at("f"), "f3"},
		{side{text: "d", open: true}, side{text: "c", open: true}, "b1 d2 f3"},
	} {
		r := made(c.from, c.to)
		var all, back []string
		for k, v := range cursor.All(x, r) {
			all = append(all, fmt.Sprint(k, v))
		}
		for k, v := range cursor.Back(x, r) {
			back = append(back, fmt.Sprint(k, v))
		}
		if got := strings.Join(all, " "); got != c.want {
			t.Errorf("%s: All: %s, not %s", told(r), got, c.want)
		}
		if got := strings.Join(backwards(back), " "); got != c.want {
			t.Errorf("%s: Back, the other way: %s, not %s", told(r), got, c.want)
		}
		if got := cursor.Count(x, r); got != len(strings.Fields(c.want)) {
			t.Errorf("%s: Count: %d", told(r), got)
		}
	}
}

// Trees of no keys and of nil have nothing in any range.
func TestCU2NoKeys(t *testing.T) {
	var missing *tree.Tree[int]
	dropped := grown(numbered(50), digest)
	for _, k := range numbered(50) {
		dropped.Drop(k)
	}
	for _, x := range []*tree.Tree[int]{missing, tree.New[int](), dropped, missing.Clone()} {
		for _, r := range ranges(fewTexts()) {
			goes(t, x, nil, digest, r)
		}
	}
}

func TestCU2OneKey(t *testing.T) {
	for _, key := range texts() {
		x := grown([]string{key}, digest)
		for _, r := range ranges(texts()) {
			goes(t, x, []string{key}, digest, r)
		}
	}
}

// Keys and ends of any bytes, at, between, below and above each other, the empty text among them or not.
func TestCU2Texts(t *testing.T) {
	for _, keys := range [][]string{texts(), texts()[1:], texts()[:1], fewTexts(), texts()[4:9], strung(3, "\x00", "a", "\xff")} {
		x := grown(keys, digest)
		for _, r := range ranges(texts()) {
			goes(t, x, keys, digest, r)
		}
	}
}

// everyEnd are the texts at, just below and just above each so manieth key, and such as lie below and above all.
func everyEnd(keys []string, step int) []string {
	out := []string{"", "/", "x", "\xff"}
	for i := 0; i < len(keys); i += step {
		k := keys[i]
		out = append(out, k, k[:len(k)-1], k+"\x00", k+"5")
	}
	return append(out, keys[len(keys)-1])
}

// Trees about which nodes come and go, with ranges of all keys, of some, of one and of none.
func TestCU2SomeKeys(t *testing.T) {
	for _, n := range []int{2, 3, 7, 8, 9, 15, 16, 31, 40} {
		keys := numbered(n)
		x := grown(keys, digest)
		for _, r := range ranges(everyEnd(keys, 1+n/8)) {
			goes(t, x, keys, digest, r)
		}
	}
}

func TestCU2ManyKeys(t *testing.T) {
	for _, n := range []int{400, 900, 3000} {
		keys := numbered(n)
		x := grown(keys, digest)
		for _, r := range ranges(everyEnd(keys, n/3)) {
			goes(t, x, keys, digest, r)
		}
		for _, k := range keys {
			goes(t, x, keys, digest, cursor.One(k))
			if got := cursor.Count(x, cursor.One(k+"5")); got != 0 {
				t.Fatalf("%d keys: One(%q): Count: %d", n, k+"5", got)
			}
		}
	}
}

// Prefix and Meet, gone over: what begins with a text, and what lies in both.
func TestCU2PrefixAndMeet(t *testing.T) {
	keys := strung(5, "\x00", "a", "\xff")
	x := grown(keys, digest)
	for _, s := range keys {
		var want []pair[int]
		for _, k := range keys {
			if strings.HasPrefix(k, s) {
				want = append(want, pair[int]{k, digest(k)})
			}
		}
		r := cursor.Prefix(s)
		if got := gone(cursor.All(x, r)); !slices.Equal(got, want) {
			t.Fatalf("Prefix(%q): All: %v, not %v", s, got, want)
		}
		goes(t, x, keys, digest, r)
		goes(t, x, keys, digest, cursor.Meet(r, made(open("\x00a"), at("\xffa"))))
		if got := cursor.Count(x, cursor.Meet(r, cursor.One(s))); got != 1 {
			t.Fatalf("Meet of Prefix(%q) and One of it: Count: %d", s, got)
		}
	}
}

// Back is All the other way, and Count is how many All gives; on trees that grow and shrink.
func TestCU4BackIsAllTheOtherWay(t *testing.T) {
	for seed := range int64(10) {
		chance := rand.New(rand.NewSource(seed))
		x := tree.New[int]()
		ends := everyEnd(numbered(50), 20)
		for round := range 12 {
			for range 60 {
				key := fmt.Sprintf("%05d", chance.Intn(500))
				if chance.Intn(10) < 2+6*(round%2) {
					x.Drop(key)
				} else {
					x.Put(key, chance.Int())
				}
			}
			for _, r := range ranges(ends) {
				all, back := gone(cursor.All(x, r)), gone(cursor.Back(x, r))
				if !slices.Equal(back, backwards(all)) {
					t.Fatalf("%s: All: %v, Back: %v", told(r), all, back)
				}
				if got := cursor.Count(x, r); got != len(all) {
					t.Fatalf("%s: Count: %d, but All gives %d", told(r), got, len(all))
				}
			}
			for k, v := range cursor.All(x, cursor.Range{}) {
				if got, there := x.Get(k); got != v || !there {
					t.Fatalf("%q: %d, but the tree has %d, %v", k, v, got, there)
				}
			}
			if got := cursor.Count(x, cursor.Range{}); got != x.Len() {
				t.Fatalf("Count of all: %d of %d", got, x.Len())
			}
		}
	}
}

// leave goes over n pairs and leaves then.
func leave[V any](seq iter.Seq2[string, V], n int) []pair[V] {
	var out []pair[V]
	if n == 0 {
		return nil
	}
	for k, v := range seq {
		out = append(out, pair[V]{k, v})
		if len(out) == n {
			break
		}
	}
	return out
}

// Whoever leaves early has had the begin, and is handed nothing more; the next one begins anew.
func TestCU2LeftEarlyAndGoneOverAgain(t *testing.T) {
	keys := numbered(60)
	x := grown(keys, digest)
	for _, r := range []cursor.Range{{}, made(open(keys[3]), at(keys[50])), cursor.Prefix("000"), cursor.One(keys[9]), made(at("x"), none)} {
		for name, seq := range map[string]iter.Seq2[string, int]{"All": cursor.All(x, r), "Back": cursor.Back(x, r)} {
			whole := gone(seq)
			for n := range len(whole) + 1 {
				if got := leave(seq, n); !slices.Equal(got, whole[:n]) {
					t.Fatalf("%s: %s left behind %d: %v, not %v", told(r), name, n, got, whole[:n])
				}
				calls := 0
				seq(func(string, int) bool {
					calls++
					return calls < n
				})
				if want := min(max(n, 1), len(whole)); calls != want {
					t.Fatalf("%s: %s left behind %d: handed %d", told(r), name, n, calls)
				}
				if got := gone(seq); !slices.Equal(got, whole) {
					t.Fatalf("%s: %s again, left behind %d: %v, not %v", told(r), name, n, got, whole)
				}
			}
		}
	}
}

// One iterator can be gone over within itself, and beside others over the same tree.
func TestCU2WithinOneAnother(t *testing.T) {
	keys := numbered(30)
	x := grown(keys, digest)
	all, back := cursor.All(x, cursor.Range{}), cursor.Back(x, cursor.Range{})
	i := 0
	for k := range all {
		if k != keys[i] {
			t.Fatalf("the outer one: %q, not %q", k, keys[i])
		}
		if got := gone(all); len(got) != len(keys) || got[0].key != keys[0] {
			t.Fatalf("at %q All within: %v", k, got)
		}
		if got := gone(back); len(got) != len(keys) || got[0].key != keys[len(keys)-1] {
			t.Fatalf("at %q Back within: %v", k, got)
		}
		i++
	}
	if i != len(keys) {
		t.Fatalf("the outer one: %d", i)
	}
}

// typed goes over a tree of values of some type.
func typed[V comparable](t *testing.T, values ...V) {
	t.Helper()
	of := func(key string) V { return values[digest(key)%len(values)] }
	for _, n := range []int{0, 1, 8, 200} {
		keys := numbered(n)
		x := grown(keys, of)
		for _, r := range ranges([]string{"", "00", "00050", "00100\x00", "0177"}) {
			goes(t, x, keys, of, r)
		}
		var missing *tree.Tree[V]
		goes(t, missing, nil, of, cursor.Range{})
	}
}

func TestCU2ValuesOfEachType(t *testing.T) {
	one, two := 1, 1
	typed(t, 1, 2, 0, -3)
	typed(t, "a", "", "a\x00")
	typed(t, true, false)
	typed(t, 1.5, -2.5)
	typed(t, [2]string{"a"}, [2]string{"", "a"})
	typed(t, struct {
		n int
		s string
	}{1, "a"})
	typed(t, &one, &two, nil)
	typed[any](t, 1, "1", nil, &one)
	typed[error](t, fmt.Errorf("a"), nil)
	typed(t, struct{}{})
	typed(t, cursor.One("a"), cursor.Range{})
}

// Values that can't be held against each other are handed out as they were put in.
func TestCU2ValuesThatAreNotCompared(t *testing.T) {
	keys := numbered(60)
	lists := grown(keys, func(k string) []byte { return []byte(k) })
	calls := grown(keys, func(k string) func() string { return func() string { return k } })
	r := made(at(keys[5]), open(keys[55]))
	i := 5
	for k, v := range cursor.All(lists, r) {
		if k != keys[i] || string(v) != k {
			t.Fatalf("%d: %q with %q", i, k, v)
		}
		i++
	}
	for k, v := range cursor.Back(calls, r) {
		i--
		if k != keys[i] || v() != k {
			t.Fatalf("%d: %q", i, k)
		}
	}
	if i != 5 || cursor.Count(lists, r) != 50 || cursor.Count(calls, r) != 50 {
		t.Errorf("%d, %d, %d", i, cursor.Count(lists, r), cursor.Count(calls, r))
	}
}

func TestCU3Text(t *testing.T) {
	for _, c := range []struct {
		from, to side
		want     string
	}{
		{at("a"), none, "[61,)"},
		{open("a"), none, "(61,)"},
		{none, at("a"), "(,61]"},
		{none, open("a"), "(,61)"},
		{none, none, "(,)"},
		{at("a"), at("b"), "[61,62]"},
		{open("a"), at("b"), "(61,62]"},
		{at("a"), open("b"), "[61,62)"},
		{open("a"), open("b"), "(61,62)"},
		{at("b"), at("a"), "[62,61]"},
		{at(""), at(""), "[,]"},
		{at(""), none, "[,)"},
		{open(""), none, "(,)"},
		{none, at(""), "(,]"},
		{none, open(""), "(,)"},
		{open(""), at("a"), "(,61]"},
		{at("\x00"), at("\x0f"), "[00,0f]"},
		{at("\x01\x0a"), at("\x10"), "[010a,10]"},
		{at("\x7f"), at("\x80"), "[7f,80]"},
		{open("\xab\xcd\xef"), open("\xfe\xff"), "(abcdef,feff)"},
		{at("é"), open(","), "[c3a9,2c)"},
		{side{text: "a"}, side{text: "b"}, "(,)"},
		{side{text: "a", open: true}, side{open: true}, "(,)"},
		{side{text: "a"}, at("b"), "(,62]"},
		{at("a"), side{text: "b"}, "[61,)"},
	} {
		if got := cursor.Text(made(c.from, c.to)); got != c.want {
			t.Errorf("%s: Text: %s, not %s", told(made(c.from, c.to)), got, c.want)
		}
	}
	if got := cursor.Text(cursor.Prefix("a\xff")); got != "[61ff,62)" {
		t.Errorf("Text of a prefix: %s", got)
	}
	if got := cursor.Text(cursor.One("\x00")); got != "[00,00]" {
		t.Errorf("Text of one: %s", got)
	}
}

// written is Text by the words of CU3.
func written(r cursor.Range) string {
	left, right := "(,", ")"
	if r.HasFrom {
		left = fmt.Sprintf("%s%x,", map[bool]string{false: "[", true: "("}[r.OpenFrom], r.From)
	}
	if r.HasTo {
		right = fmt.Sprintf("%x%s", r.To, map[bool]string{false: "]", true: ")"}[r.OpenTo])
	}
	return left + right
}

func TestCU3TextByTheWords(t *testing.T) {
	for _, r := range ranges(texts()) {
		if got, want := cursor.Text(r), written(r); got != want {
			t.Fatalf("%s: Text: %s, not %s", told(r), got, want)
		}
	}
}

func TestCU3EveryByte(t *testing.T) {
	var whole, digits string
	for i := range 256 {
		b := string([]byte{byte(i)})
		whole, digits = whole+b, digits+fmt.Sprintf("%02x", i)
		if got, want := cursor.Text(cursor.One(b)), fmt.Sprintf("[%02x,%02x]", i, i); got != want {
			t.Errorf("byte %d: %s, not %s", i, got, want)
		}
	}
	if got, want := cursor.Text(made(open(whole), at(whole+whole))), "("+digits+","+digits+digits+"]"; got != want {
		t.Errorf("all bytes: %s", got)
	}
}

// A tree that was gone over is as it was.
func TestP7TheTreeStays(t *testing.T) {
	keys := numbered(300)
	x := grown(keys, digest)
	shape := fmt.Sprint(x.Shape())
	for _, r := range ranges(everyEnd(keys, 100)) {
		leave(cursor.All(x, r), 5)
		leave(cursor.Back(x, r), 5)
		cursor.Count(x, r)
	}
	if got := x.Keys(); !slices.Equal(got, keys) || fmt.Sprint(x.Shape()) != shape || x.Len() != len(keys) {
		t.Errorf("%d keys: %q", x.Len(), got)
	}
	for _, k := range keys {
		if v, there := x.Get(k); v != digest(k) || !there {
			t.Errorf("%q: %d, %v", k, v, there)
		}
	}
}

// What is told while a tree is changed is not promised, but nobody comes to harm, and behind it the range is told anew.
func TestP7ATreeThatChanges(t *testing.T) {
	keys := numbered(100)
	for _, r := range []cursor.Range{{}, made(at(keys[20]), open(keys[70]))} {
		x := grown(keys, digest)
		all, back := cursor.All(x, r), cursor.Back(x, r)
		for k := range all {
			x.Drop(k)
		}
		for k := range back {
			x.Put(k+"!", 1)
		}
		for _, k := range x.Keys() {
			x.Drop(k)
		}
		for _, k := range keys {
			x.Put(k, digest(k))
		}
		goes(t, x, keys, digest, r)
	}
}

// Calls in which the same is asked tell the same, also beside one another: nothing is written to a tree that is gone over.
func TestP7Alone(t *testing.T) {
	keys := numbered(200)
	x := grown(keys, digest)
	r := made(open(keys[7]), at(keys[190]))
	all, back := cursor.All(x, r), cursor.Back(x, r)
	want := gone(all)
	var work sync.WaitGroup
	for range 8 {
		work.Go(func() {
			for range 20 {
				if !slices.Equal(gone(all), want) || !slices.Equal(gone(back), backwards(want)) || cursor.Count(x, r) != len(want) {
					t.Error("told otherwise")
				}
			}
		})
	}
	work.Wait()
}

// In a great tree the keys of a narrow range are found without going through the others.
func TestCU2GreatTree(t *testing.T) {
	const n = 1 << 16
	keys := make([]string, n)
	for i := range keys {
		keys[i] = fmt.Sprintf("%06x", i)
	}
	x := grown(keys, digest)
	for i, k := range keys {
		if got := leave(cursor.All(x, made(at(k), none)), 1); got[0].key != k {
			t.Fatalf("from %q: %q", k, got[0].key)
		}
		if got := leave(cursor.Back(x, made(none, at(k))), 1); got[0].key != k {
			t.Fatalf("to %q: %q", k, got[0].key)
		}
		if got := cursor.Count(x, made(open(k), at(keys[min(i+3, n-1)]))); got != min(3, n-1-i) {
			t.Fatalf("behind %q: %d", k, got)
		}
	}
	if got := cursor.Count(x, cursor.Range{}); got != n {
		t.Errorf("Count: %d", got)
	}
}

// read makes keys and two ranges of any bytes.
func read(b []byte) ([]string, cursor.Range, cursor.Range) {
	parts := strings.Split(string(b), "|")
	for len(parts) < 5 {
		parts = append(parts, "")
	}
	flag := func(i int) bool { return len(b) > 0 && b[0]>>i&1 == 1 }
	a := cursor.Range{From: parts[1], To: parts[2], HasFrom: flag(0), HasTo: flag(1), OpenFrom: flag(2), OpenTo: flag(3)}
	c := cursor.Range{From: parts[3], To: parts[4], HasFrom: flag(4), HasTo: flag(5), OpenFrom: flag(6), OpenTo: flag(7)}
	slices.Sort(parts)
	return slices.Compact(parts), a, c
}

func FuzzCursor(f *testing.F) {
	f.Add([]byte(""))
	f.Add([]byte("\xff|a|c|a|b"))
	f.Add([]byte("\x33|a|c|a\x00|b|d|e|f|g|h|aa|ab|b\xff|\xff|\xff\xff"))
	f.Add([]byte("\x53||\xff|\x00|"))
	f.Fuzz(func(t *testing.T, b []byte) {
		keys, a, c := read(b)
		x := grown(keys, digest)
		met := cursor.Meet(a, c)
		for _, r := range []cursor.Range{a, c, met, cursor.Prefix(a.From), cursor.One(c.To)} {
			goes(t, x, keys, digest, r)
			if got, want := cursor.Text(r), written(r); got != want {
				t.Fatalf("%s: Text: %s, not %s", told(r), got, want)
			}
		}
		if met != cursor.Meet(c, a) {
			t.Fatalf("Meet of %s and %s", told(a), told(c))
		}
		for _, k := range keys {
			if cursor.Has(met, k) != (lies(a, k) && lies(c, k)) {
				t.Fatalf("Meet of %s and %s: %q", told(a), told(c), k)
			}
			if cursor.Has(cursor.Prefix(a.From), k) != strings.HasPrefix(k, a.From) {
				t.Fatalf("Prefix(%q): %q", a.From, k)
			}
		}
	})
}
