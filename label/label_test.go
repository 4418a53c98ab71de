package label_test

import (
	"math"
	"strings"
	"testing"

	"barbican/api"
	"barbican/label"
)

const (
	catA    = uint32(1)
	catZ    = uint32(1) << 25
	allCats = uint32(1)<<26 - 1
	beyond  = uint32(1) << 26 // the lowest bit that is no category
)

const alphabet = "abcdefghijklmnopqrstuvwxyz"

func at(rank int, cats uint32) api.Label { return api.Label{Rank: rank, Cats: cats} }

// sample holds labels that may be: edges of ranks and categories, and sets of which none holds the other.
func sample() []api.Label {
	var out []api.Label
	for _, rank := range []int{0, 1, 2, 9, 10, 14, 15} {
		for _, cats := range []uint32{0, catA, 2, 3, 10, catZ, catA | catZ, allCats &^ catA, allCats &^ catZ, allCats} {
			out = append(out, at(rank, cats))
		}
	}
	return out
}

// strange holds labels that may not be: Dominates, Join, Meet and Compare go by their fields all the same.
func strange() []api.Label {
	return []api.Label{
		at(-1, 0), at(16, 0), at(math.MinInt, 0), at(math.MaxInt, 0), at(-1, allCats), at(16, catA),
		at(0, beyond), at(15, beyond), at(3, beyond|catA), at(0, 1<<31), at(7, math.MaxUint32), at(math.MinInt, math.MaxUint32),
	}
}

// wide is few enough to be gone over in threes.
func wide() []api.Label {
	out := strange()
	for _, rank := range []int{0, 1, 15} {
		for _, cats := range []uint32{0, catA, catZ, 10, allCats} {
			out = append(out, at(rank, cats))
		}
	}
	return out
}

func TestLB1Valid(t *testing.T) {
	for _, l := range sample() {
		if err := label.Valid(l); err != nil {
			t.Errorf("Valid(%v): %v, not nil", l, err)
		}
	}
	for rank := range api.MaxRank + 1 {
		if err := label.Valid(at(rank, 0)); err != nil {
			t.Errorf("Valid of rank %d: %v, not nil", rank, err)
		}
	}
	for bit := range 32 {
		want := error(nil)
		if bit > 25 {
			want = api.ErrLabel
		}
		if err := label.Valid(at(5, 1<<bit)); err != want {
			t.Errorf("Valid with the bit %d: %v, not %v", bit, err, want)
		}
	}
	for _, l := range strange() {
		if err := label.Valid(l); err != api.ErrLabel {
			t.Errorf("Valid(%v): %v, not ErrLabel", l, err)
		}
	}
}

// pairs: how two labels lie to each other, what joins them and where they meet.
var pairs = []struct {
	a, b       api.Label
	compare    int
	join, meet api.Label
}{
	{at(0, 0), at(0, 0), 0, at(0, 0), at(0, 0)},
	{at(15, allCats), at(15, allCats), 0, at(15, allCats), at(15, allCats)},
	{at(15, allCats), at(0, 0), 1, at(15, allCats), at(0, 0)},
	{at(2, 0), at(1, 0), 1, at(2, 0), at(1, 0)},
	{at(1, 10), at(1, 2), 1, at(1, 10), at(1, 2)},
	{at(2, 10), at(1, 8), 1, at(2, 10), at(1, 8)},
	{at(0, catZ), at(0, 0), 1, at(0, catZ), at(0, 0)},
	{at(1, catA), at(2, 0), 2, at(2, catA), at(1, 0)},
	{at(1, catA), at(1, catZ), 2, at(1, catA|catZ), at(1, 0)},
	{at(15, allCats&^catZ), at(0, catZ), 2, at(15, allCats), at(0, 0)},
	{at(3, 3), at(4, 6), 2, at(4, 7), at(3, 2)},
	{at(16, beyond), at(-1, 0), 1, at(16, beyond), at(-1, 0)},
	{at(0, 0), at(-1, 0), 1, at(0, 0), at(-1, 0)},
	{at(5, 1<<31), at(5, 1<<30), 2, at(5, 3<<30), at(5, 0)},
	{at(math.MaxInt, 0), at(math.MinInt, 0), 1, at(math.MaxInt, 0), at(math.MinInt, 0)},
	{at(math.MinInt, math.MaxUint32), at(0, 0), 2, at(0, math.MaxUint32), at(math.MinInt, 0)},
	{at(-1, beyond), at(-1, beyond), 0, at(-1, beyond), at(-1, beyond)},
}

func turned(compare int) int {
	if compare == 2 {
		return 2
	}
	return -compare
}

func TestLB1Pairs(t *testing.T) {
	for _, p := range pairs {
		if n := label.Compare(p.a, p.b); n != p.compare {
			t.Errorf("Compare(%v, %v): %d, not %d", p.a, p.b, n, p.compare)
		}
		if n := label.Compare(p.b, p.a); n != turned(p.compare) {
			t.Errorf("Compare(%v, %v): %d, not %d", p.b, p.a, n, turned(p.compare))
		}
		if got, want := label.Dominates(p.a, p.b), p.compare == 0 || p.compare == 1; got != want {
			t.Errorf("Dominates(%v, %v): %v", p.a, p.b, got)
		}
		if got, want := label.Dominates(p.b, p.a), p.compare == 0 || p.compare == -1; got != want {
			t.Errorf("Dominates(%v, %v): %v", p.b, p.a, got)
		}
		if j, k := label.Join(p.a, p.b), label.Join(p.b, p.a); j != p.join || k != p.join {
			t.Errorf("Join of %v and %v: %v and %v, not %v", p.a, p.b, j, k, p.join)
		}
		if m, n := label.Meet(p.a, p.b), label.Meet(p.b, p.a); m != p.meet || n != p.meet {
			t.Errorf("Meet of %v and %v: %v and %v, not %v", p.a, p.b, m, n, p.meet)
		}
	}
}

// dominates goes by the words of the chapter, bit by bit.
func dominates(a, b api.Label) bool {
	for bit := range 32 {
		if b.Cats>>bit&1 == 1 && a.Cats>>bit&1 == 0 {
			return false
		}
	}
	return a.Rank >= b.Rank
}

func compared(a, b api.Label) int {
	up, down := dominates(a, b), dominates(b, a)
	switch {
	case up && down:
		return 0
	case up:
		return 1
	case down:
		return -1
	}
	return 2
}

func TestLB1ByTheWords(t *testing.T) {
	all := append(sample(), strange()...)
	for _, a := range all {
		for _, b := range all {
			if got := label.Dominates(a, b); got != dominates(a, b) {
				t.Errorf("Dominates(%v, %v): %v", a, b, got)
			}
			if got, want := label.Compare(a, b), compared(a, b); got != want {
				t.Errorf("Compare(%v, %v): %d, not %d", a, b, got, want)
			}
		}
	}
}

var texts = []struct {
	l api.Label
	s string
}{
	{at(0, 0), "0"},
	{at(9, 0), "9"},
	{at(10, 0), "10"},
	{at(15, 0), "15"},
	{at(0, catA), "0:a"},
	{at(0, catZ), "0:z"},
	{at(15, catA|catZ), "15:az"},
	{at(2, 10), "2:bd"},
	{at(7, allCats), "7:" + alphabet},
	{at(15, allCats), "15:" + alphabet},
	{at(1, allCats&^catA), "1:" + alphabet[1:]},
	{at(1, allCats&^catZ), "1:" + alphabet[:25]},
}

func TestLB2Text(t *testing.T) {
	for _, c := range texts {
		if s, err := label.Text(c.l); s != c.s || err != nil {
			t.Errorf("Text(%v): %q, %v, not %q", c.l, s, err, c.s)
		}
	}
	for bit := range 26 {
		want := "4:" + alphabet[bit:bit+1]
		if s, err := label.Text(at(4, 1<<bit)); s != want || err != nil {
			t.Errorf("Text with the bit %d: %q, %v, not %q", bit, s, err, want)
		}
	}
	for _, l := range strange() {
		if s, err := label.Text(l); s != "" || err != api.ErrLabel {
			t.Errorf("Text(%v): %q, %v, not ErrLabel", l, s, err)
		}
	}
}

func TestLB2Parse(t *testing.T) {
	for _, c := range texts {
		if l, err := label.Parse(c.s); l != c.l || err != nil {
			t.Errorf("Parse(%q): %v, %v, not %v", c.s, l, err, c.l)
		}
	}
	for bit := range 26 {
		s, want := "4:"+alphabet[bit:bit+1], at(4, 1<<bit)
		if l, err := label.Parse(s); l != want || err != nil {
			t.Errorf("Parse(%q): %v, %v, not %v", s, l, err, want)
		}
	}
}

func refused(t *testing.T, s string) {
	t.Helper()
	if l, err := label.Parse(s); l != (api.Label{}) || err != api.ErrForm {
		t.Errorf("Parse(%.40q): %v, %v, not ErrForm", s, l, err)
	}
}

func TestLB2ParseRefuses(t *testing.T) {
	for _, s := range []string{
		"", ":", ":a", "a", "a:", "02", "00", "00:a", "2:", "2:db", "2:aa", "2:aba", "16", "16:a", "20", "99", "-1", "-0", "+2", "-1:a",
		" 2", "2 ", "2 :a", "2: a", "2:a ", "2:a\n", "2\n", "\t2", "2:A", "2:a:b", "2::", "2::a", "2:a:", "2a", "2;a", "2,a", "2:a,b",
		"2:{", "2:`", "2:a1", "2:1", "2.0", "0x2", "0b1", "1_0", "2e0", "2:ä", "2:a\x00", "\x00", "2\x00", "2:\xff", "\xff", "2:é",
		"٢", "２", "2：a", "1:" + alphabet + "a", "1:" + alphabet + "{", "9223372036854775808", "18446744073709551618", "-9223372036854775808",
		"4294967298", "4294967298:a",
	} {
		refused(t, s)
	}
	for _, n := range []int{100, 1 << 16} {
		refused(t, strings.Repeat("0", n)+"2")
		refused(t, strings.Repeat("9", n))
		refused(t, "2:"+strings.Repeat("a", n))
		refused(t, strings.Repeat(":", n))
	}
}

// Texts of few signs are gone through whole: Parse lets in those that are the Text of a label, and no other one.
func TestLB2ParseShortTexts(t *testing.T) {
	known := map[string]api.Label{}
	for rank := range 16 {
		for cats := range uint32(8) {
			l := at(rank, cats)
			s, err := label.Text(l)
			if err != nil {
				t.Fatalf("Text(%v): %v", l, err)
			}
			known[s] = l
		}
	}
	short := []string{""}
	for i := 0; i < len(short); i++ {
		s := short[i]
		if want, ok := known[s]; !ok {
			refused(t, s)
		} else if l, err := label.Parse(s); l != want || err != nil {
			t.Errorf("Parse(%q): %v, %v, not %v", s, l, err, want)
		}
		if len(s) < 5 {
			for _, sign := range "0156:abc-" {
				short = append(short, s+string(sign))
			}
		}
	}
}

func TestLB3Order(t *testing.T) {
	all := wide()
	for _, a := range all {
		if !label.Dominates(a, a) {
			t.Errorf("%v does not dominate itself", a)
		}
		for _, b := range all {
			if a != b && label.Dominates(a, b) && label.Dominates(b, a) {
				t.Errorf("%v and %v dominate each other", a, b)
			}
			for _, c := range all {
				if label.Dominates(a, b) && label.Dominates(b, c) && !label.Dominates(a, c) {
					t.Errorf("%v dominates %v, which dominates %v; the first does not dominate the last", a, b, c)
				}
			}
		}
	}
}

func TestLB3Bounds(t *testing.T) {
	all := wide()
	for _, a := range all {
		for _, b := range all {
			j, m := label.Join(a, b), label.Meet(a, b)
			if !label.Dominates(j, a) || !label.Dominates(j, b) {
				t.Errorf("Join(%v, %v), %v, does not dominate both", a, b, j)
			}
			if !label.Dominates(a, m) || !label.Dominates(b, m) {
				t.Errorf("Meet(%v, %v), %v, is not dominated by both", a, b, m)
			}
			for _, c := range all {
				if label.Dominates(c, a) && label.Dominates(c, b) && !label.Dominates(c, j) {
					t.Errorf("%v dominates %v and %v, but not their Join %v", c, a, b, j)
				}
				if label.Dominates(a, c) && label.Dominates(b, c) && !label.Dominates(m, c) {
					t.Errorf("%v and %v dominate %v, but their Meet %v does not", a, b, c, m)
				}
			}
		}
	}
}

func TestLB3ParseOfText(t *testing.T) {
	check := func(l api.Label) {
		s, err := label.Text(l)
		if err != nil {
			t.Errorf("Text(%v): %v", l, err)
		}
		if got, err := label.Parse(s); got != l || err != nil {
			t.Errorf("Parse(%q): %v, %v, not %v", s, got, err, l)
		}
	}
	for _, l := range sample() {
		check(l)
	}
	for rank := range 16 {
		for low := range uint32(26) {
			for high := range uint32(26) {
				check(at(rank, 1<<low|1<<high))
				check(at(rank, allCats&^(1<<low|1<<high)))
			}
		}
	}
}

func FuzzParse(f *testing.F) {
	for _, c := range texts {
		f.Add(c.s)
	}
	f.Add("2:db")
	f.Add("02")
	f.Fuzz(func(t *testing.T, s string) {
		l, err := label.Parse(s)
		if err != nil {
			if err != api.ErrForm || l != (api.Label{}) {
				t.Fatalf("Parse(%q): %v, %v", s, l, err)
			}
			return
		}
		if text, err := label.Text(l); text != s || err != nil {
			t.Fatalf("Parse(%q): %v, whose Text is %q, %v", s, l, text, err)
		}
	})
}
