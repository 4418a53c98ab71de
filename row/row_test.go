package row_test

import (
	"bytes"
	"fmt"
	"math"
	"math/rand"
	"slices"
	"strings"
	"sync"
	"testing"

	"barbican/api"
	"barbican/order"
	"barbican/row"
	"barbican/value"
)

// Values in short.
func null() api.Value                 { return api.Value{} }
func num(n int) api.Value             { return api.Value{Kind: api.KindInt, Int: n} }
func text(s string) api.Value         { return api.Value{Kind: api.KindText, Text: s} }
func truth(b bool) api.Value          { return api.Value{Kind: api.KindBool, Bool: b} }
func list(l ...api.Value) []api.Value { return l }

// times is a list of n values v.
func times(n int, v api.Value) []api.Value { return slices.Repeat(list(v), n) }

// made is a table of columns, each told by its letters: i, t and b its kind, n that of null, x and y one that is none, then k, if it is of the key, and o, if it may be null.
func made(words string) api.Table {
	t := api.Table{Name: "t"}
	for i, w := range strings.Fields(words) {
		kind := map[byte]int{'i': api.KindInt, 't': api.KindText, 'b': api.KindBool, 'n': api.KindNull, 'x': 4, 'y': -1}[w[0]]
		t.Columns = append(t.Columns, api.Column{
			Name: fmt.Sprintf("c%d", i), Kind: kind,
			Key: strings.Contains(w[1:], "k"), Null: strings.Contains(w[1:], "o"),
		})
	}
	return t
}

// tables are with no column, with one and with many, with none, one, some and all of them of the key; also such as layer 15 would not let be.
func tables() []api.Table {
	var out []api.Table
	for _, words := range []string{
		"", "i", "io", "ik", "iko", "t", "to", "tk", "tko", "b", "bo", "bk", "bko",
		"n", "no", "nk", "nko", "x", "xo", "xk", "xko", "y", "yo", "yk",
		"ik to", "to ik", "ik tk", "tk ik", "ik tk bk", "io to bo", "i t b",
		"ik to bk", "bo tk i bk to", "t ik io tk b bk", "i ik no", "tk xo", "no ik xo", "nk ik",
		"ik ik ik", "tk to tk", "bk bo bk b bk",
		strings.Repeat("ik ", api.MaxColumns), strings.Repeat("io ", api.MaxColumns),
		strings.Repeat("ik ", api.MaxColumns+1), strings.Repeat("bko ", 40), strings.Repeat("tk i bk io ", 10),
		strings.Repeat("to bo ", 100) + "ik",
	} {
		out = append(out, made(words))
	}
	return out
}

// numbers are those around each power of 2, with a sign, and the least and the greatest.
func numbers() []int {
	out := []int{0, 1, -1, 300, -300, math.MinInt, math.MinInt + 1, math.MaxInt, math.MaxInt - 1}
	for i := 1; i < 63; i++ {
		n := 1 << i
		out = append(out, n-1, n, n+1, -n-1, -n, -n+1)
	}
	return out
}

// texts may be: of all lengths at which the length takes another byte, and with every byte that a text may have.
func texts() []string {
	out := []string{"", " ", "~", "a", "b", "A", "0", "'", "''", "it's", "aa", "ab", "a ", "a~", ", ", "NULL", "1"}
	for c := 32; c <= 126; c++ {
		out = append(out, string(rune(c)), "x"+string(rune(c)))
	}
	for _, n := range []int{126, 127, 128, 129, 300, api.MaxText - 1, api.MaxText} {
		out = append(out, strings.Repeat("xyz'", n/4+1)[:n])
	}
	return out
}

// values are such as may be, of each kind.
func values() []api.Value {
	out := list(null(), truth(false), truth(true))
	for _, n := range numbers() {
		out = append(out, num(n))
	}
	for _, s := range texts() {
		out = append(out, text(s))
	}
	return out
}

// few are some of each kind.
func few() []api.Value {
	return list(null(), num(0), num(-1), num(64), num(math.MinInt), num(math.MaxInt), text(""), text("a"), text("ab"), text("it's"), truth(false), truth(true))
}

// fault is a value that may not be, and its error.
type fault struct {
	v   api.Value
	err error
}

// faults are values that may not be, each in its own way.
func faults() []fault {
	long := strings.Repeat("a", api.MaxText+1)
	out := []fault{
		{api.Value{Kind: -1}, api.ErrForm},
		{api.Value{Kind: 4}, api.ErrForm},
		{api.Value{Kind: math.MaxInt}, api.ErrForm},
		{api.Value{Kind: math.MinInt}, api.ErrForm},
		{api.Value{Int: 1}, api.ErrForm},
		{api.Value{Text: "a"}, api.ErrForm},
		{api.Value{Bool: true}, api.ErrForm},
		{api.Value{Kind: api.KindInt, Text: "a"}, api.ErrForm},
		{api.Value{Kind: api.KindInt, Bool: true}, api.ErrForm},
		{api.Value{Kind: api.KindText, Int: -1}, api.ErrForm},
		{api.Value{Kind: api.KindText, Text: "a", Bool: true}, api.ErrForm},
		{api.Value{Kind: api.KindText, Text: long, Int: 1}, api.ErrForm},
		{api.Value{Kind: api.KindBool, Int: 1, Bool: true}, api.ErrForm},
		{api.Value{Kind: api.KindBool, Text: " "}, api.ErrForm},
		{text(long), api.ErrLong},
		{text(strings.Repeat("\x00", api.MaxText+1)), api.ErrLong},
		{text("a\x00"), api.ErrForm},
		{text("\x1f"), api.ErrForm},
		{text("\x7f"), api.ErrForm},
		{text("\x80"), api.ErrForm},
		{text("\xff"), api.ErrForm},
		{text("é"), api.ErrForm},
		{text("a\n"), api.ErrForm},
		{text(strings.Repeat("a", api.MaxText-1) + "\t"), api.ErrForm},
	}
	return out
}

// rightFor are values that may stand in a column, by the words of RW1.
func rightFor(c api.Column, of []api.Value) []api.Value {
	var out []api.Value
	for _, v := range of {
		if wrongWith(c, v) == nil {
			out = append(out, v)
		}
	}
	return out
}

// wrongWith is what is not right with a value in a column, by the words of RW1.
func wrongWith(c api.Column, v api.Value) error {
	if err := value.Valid(v); err != nil {
		return err
	}
	if v.Kind == api.KindNull {
		if c.Key {
			return api.ErrNull
		}
		if !c.Null {
			return api.ErrNull
		}
		return nil
	}
	if v.Kind == c.Kind {
		return nil
	}
	return api.ErrKind
}

// wrongWithKey is what is not right with a value of a key, by the words of RW2.
func wrongWithKey(c api.Column, v api.Value) error {
	if err := value.Valid(v); err != nil {
		return err
	}
	if v.Kind == api.KindNull {
		return api.ErrKind
	}
	if v.Kind == c.Kind {
		return nil
	}
	return api.ErrKind
}

// checked is Check by its words.
func checked(t api.Table, l []api.Value) error {
	if len(l) < len(t.Columns) || len(l) > len(t.Columns) {
		return api.ErrArg
	}
	for i := range l {
		if err := wrongWith(t.Columns[i], l[i]); err != nil {
			return err
		}
	}
	return nil
}

// ofKey are the values of the key's columns, and the columns themselves.
func ofKey(t api.Table, l []api.Value) []api.Value {
	var out []api.Value
	for i, c := range t.Columns {
		if c.Key {
			out = append(out, l[i])
		}
	}
	return out
}

func columnsOfKey(t api.Table) []api.Column {
	return slices.DeleteFunc(slices.Clone(t.Columns), func(c api.Column) bool { return !c.Key })
}

// keyed is Key by its words, keyedOf is KeyOf by them.
func keyed(t api.Table, l []api.Value) (string, error) {
	if err := checked(t, l); err != nil {
		return "", err
	}
	return order.Encode(ofKey(t, l))
}

func keyedOf(t api.Table, l []api.Value) (string, error) {
	columns := columnsOfKey(t)
	if len(l) != len(columns) {
		return "", api.ErrArg
	}
	for i := range l {
		if err := wrongWithKey(columns[i], l[i]); err != nil {
			return "", err
		}
	}
	return order.Encode(l)
}

// groups are a number without a sign in groups of seven bits, by division.
func groups(n uint64) []byte {
	var out []byte
	for n >= 128 {
		out = append(out, byte(n%128+128))
		n /= 128
	}
	return append(out, byte(n))
}

// laid are a value's bytes by the words of RW3.
func laid(v api.Value) []byte {
	switch v.Kind {
	case api.KindInt:
		if v.Int < 0 {
			return append([]byte{1}, groups(uint64(-(v.Int+1))*2+1)...)
		}
		return append([]byte{1}, groups(uint64(v.Int)*2)...)
	case api.KindText:
		return append(append([]byte{1}, groups(uint64(len(v.Text)))...), v.Text...)
	case api.KindBool:
		return map[bool][]byte{false: {1, 0}, true: {1, 1}}[v.Bool]
	}
	return []byte{0}
}

func laidAll(l []api.Value) []byte {
	var out []byte
	for _, v := range l {
		out = append(out, laid(v)...)
	}
	return out
}

// encoded is Encode by its words.
func encoded(t api.Table, l []api.Value) ([]byte, error) {
	if err := checked(t, l); err != nil {
		return nil, err
	}
	return laidAll(l), nil
}

// rowsOf are some rows of a table, if it has any: each right value of each column stands in one, and each two of few values in two columns that stand side by side.
func rowsOf(t api.Table, of []api.Value) [][]api.Value {
	var plain []api.Value
	for _, c := range t.Columns {
		right := rightFor(c, of)
		if len(right) == 0 {
			return nil
		}
		plain = append(plain, right[len(right)/2])
	}
	out := [][]api.Value{plain}
	for i, c := range t.Columns {
		if i > 20 {
			break
		}
		for _, v := range rightFor(c, of) {
			one := slices.Clone(plain)
			one[i] = v
			out = append(out, one)
			if i == 0 {
				continue
			}
			for _, ahead := range rightFor(t.Columns[i-1], few()) {
				two := slices.Clone(one)
				two[i-1] = ahead
				out = append(out, two)
			}
		}
	}
	return out
}

// lists are right and wrong ones of a table: rows, rows cut and gone on, and rows with one or two values that may not stand there.
func lists(t api.Table) [][]api.Value {
	out := [][]api.Value{nil, {}, list(null()), list(num(1)), list(num(1), null()), times(len(t.Columns), null()), times(len(t.Columns)+1, num(0))}
	base := times(len(t.Columns), num(1))
	if all := rowsOf(t, few()); len(all) > 0 {
		base = all[0]
		out = append(out, all...)
		out = append(out, append(slices.Clone(base), null()), append(slices.Clone(base), base...))
	}
	if len(base) > 0 {
		out = append(out, base[:len(base)-1], base[1:])
	}
	wrong := few()
	for _, f := range faults() {
		wrong = append(wrong, f.v)
	}
	for i := range min(len(base), 6) {
		for k, v := range wrong {
			one := slices.Clone(base)
			one[i] = v
			two := slices.Clone(one)
			two[(i+1+k)%len(two)] = wrong[(k*7+i)%len(wrong)]
			out = append(out, one, two)
		}
	}
	return out
}

// keyLists are right and wrong ones for KeyOf.
func keyLists(t api.Table) [][]api.Value {
	return lists(api.Table{Columns: columnsOfKey(t)})
}

// told tells a table, and short tells values, so that long ones leave a line readable.
func told(t api.Table) string {
	s := fmt.Sprintf("%d columns", len(t.Columns))
	for _, c := range t.Columns[:min(8, len(t.Columns))] {
		s += fmt.Sprintf(" (%d %t %t)", c.Kind, c.Key, c.Null)
	}
	return s
}

func short(l []api.Value) string {
	s := fmt.Sprintf("%d values", len(l))
	for _, v := range l[:min(8, len(l))] {
		s += fmt.Sprintf(" (%d %d %.20q %t)", v.Kind, v.Int, v.Text, v.Bool)
	}
	return s
}

// bytesOf tells the first bytes.
func bytesOf(b []byte) string {
	return fmt.Sprintf("%d bytes %v", len(b), b[:min(40, len(b))])
}

func TestRW1Keys(t *testing.T) {
	for _, c := range []struct {
		words string
		want  []int
	}{
		{"", nil},
		{"i", nil},
		{"ik", []int{0}},
		{"iko", []int{0}},
		{"nk", []int{0}},
		{"xk", []int{0}},
		{"i t b", nil},
		{"ik to", []int{0}},
		{"to ik", []int{1}},
		{"to bo ik", []int{2}},
		{"ik to bk", []int{0, 2}},
		{"i tk b ik bk t", []int{1, 3, 4}},
		{"ik tk bk", []int{0, 1, 2}},
		{"y xk n tk", []int{1, 3}},
		{strings.Repeat("ik ", 18), []int{0, 1, 2, 3, 4, 5, 6, 7, 8, 9, 10, 11, 12, 13, 14, 15, 16, 17}},
		{strings.Repeat("i ", 300) + "ik io ik", []int{300, 302}},
	} {
		if got := row.Keys(made(c.words)); !slices.Equal(got, c.want) {
			t.Errorf("Keys of %q: %v, not %v", c.words, got, c.want)
		}
	}
}

func TestRW1KeysByTheWords(t *testing.T) {
	for mask := range 1 << 9 {
		var x api.Table
		var want []int
		for i := range 9 {
			x.Columns = append(x.Columns, api.Column{Kind: i % 5, Key: mask>>i&1 == 1, Null: i%2 == 0})
			if mask>>i&1 == 1 {
				want = append(want, i)
			}
		}
		if got := row.Keys(x); !slices.Equal(got, want) {
			t.Errorf("Keys of the columns %09b: %v, not %v", mask, got, want)
		}
	}
}

func TestRW1Check(t *testing.T) {
	for _, c := range []struct {
		words string
		l     []api.Value
		want  error
	}{
		{"", nil, nil},
		{"", list(), nil},
		{"", list(null()), api.ErrArg},
		{"ik", nil, api.ErrArg},
		{"ik", list(num(1), num(2)), api.ErrArg},
		{"ik to", list(num(1)), api.ErrArg},
		{"ik to", list(num(1), null(), null()), api.ErrArg},
		// How many they are is asked first.
		{"ik to", list(api.Value{Kind: 9}), api.ErrArg},
		{"ik to", list(null(), num(1), text("\x00")), api.ErrArg},
		{"i", list(num(1)), nil},
		{"i", list(num(math.MinInt)), nil},
		{"t", list(text("")), nil},
		{"b", list(truth(false)), nil},
		{"i", list(text("1")), api.ErrKind},
		{"i", list(truth(true)), api.ErrKind},
		{"t", list(num(1)), api.ErrKind},
		{"t", list(truth(false)), api.ErrKind},
		{"b", list(num(0)), api.ErrKind},
		{"b", list(text("TRUE")), api.ErrKind},
		{"ik", list(text("")), api.ErrKind},
		{"io", list(text("")), api.ErrKind},
		{"iko", list(text("")), api.ErrKind},
		{"i", list(null()), api.ErrNull},
		{"io", list(null()), nil},
		{"ik", list(null()), api.ErrNull},
		{"iko", list(null()), api.ErrNull},
		{"to", list(null()), nil},
		{"bo", list(null()), nil},
		{"tko", list(null()), api.ErrNull},
		{"bk", list(null()), api.ErrNull},
		// Columns that layer 15 would not let be: nothing is of their kind but null, which is let in by Null alone.
		{"n", list(null()), api.ErrNull},
		{"no", list(null()), nil},
		{"nk", list(null()), api.ErrNull},
		{"nko", list(null()), api.ErrNull},
		{"no", list(num(0)), api.ErrKind},
		{"x", list(null()), api.ErrNull},
		{"xo", list(null()), nil},
		{"xko", list(null()), api.ErrNull},
		{"xo", list(num(1)), api.ErrKind},
		{"xo", list(api.Value{Kind: 4}), api.ErrForm},
		{"yo", list(api.Value{Kind: -1}), api.ErrForm},
		// Of one value: what value.Valid says is asked ahead of its kind, and that of whether it is null.
		{"ik", list(api.Value{Text: "a"}), api.ErrForm},
		{"io", list(api.Value{Int: 1}), api.ErrForm},
		{"i", list(text("\x00")), api.ErrForm},
		{"i", list(text(strings.Repeat("a", api.MaxText+1))), api.ErrLong},
		{"t", list(text(strings.Repeat("a", api.MaxText+1))), api.ErrLong},
		{"t", list(text(strings.Repeat("a", api.MaxText))), nil},
		{"t", list(text("é")), api.ErrForm},
		// Of several that are not right the first is told.
		{"ik to", list(null(), text("a")), api.ErrNull},
		{"ik to", list(num(1), text("a")), nil},
		{"ik to", list(num(1), null()), nil},
		{"ik to", list(null(), num(1)), api.ErrNull},
		{"ik to", list(text("a"), text("\x00")), api.ErrKind},
		{"ik to", list(api.Value{Kind: 9}, num(1)), api.ErrForm},
		{"ik to", list(num(1), num(1)), api.ErrKind},
		{"ik t b", list(num(1), null(), num(1)), api.ErrNull},
		{"ik t b", list(num(1), num(1), null()), api.ErrKind},
		{"ik t b", list(num(1), text(strings.Repeat("a", api.MaxText+1)), api.Value{Kind: 9}), api.ErrLong},
		{"ik t b", list(num(1), text("a"), api.Value{Kind: 9}), api.ErrForm},
		{strings.Repeat("bo ", 300), times(300, null()), nil},
		{strings.Repeat("bo ", 300) + "b", times(301, null()), api.ErrNull},
	} {
		if err := row.Check(made(c.words), c.l); err != c.want {
			t.Errorf("Check of %q, %s: %v, not %v", c.words, short(c.l), err, c.want)
		}
	}
}

func TestRW1CheckOfEachColumnAndValue(t *testing.T) {
	all := values()
	for _, f := range faults() {
		all = append(all, f.v)
	}
	for kind := -2; kind <= 5; kind++ {
		for mask := range 4 {
			x := api.Table{Columns: []api.Column{{Kind: kind, Key: mask&1 == 1, Null: mask&2 == 2}}}
			for _, v := range all {
				if got, want := row.Check(x, list(v)), wrongWith(x.Columns[0], v); got != want {
					t.Errorf("Check of %s, %s: %v, not %v", told(x), short(list(v)), got, want)
				}
			}
		}
	}
}

func TestRW1CheckTellsWhatValidDoes(t *testing.T) {
	for _, x := range tables() {
		for _, base := range rowsOf(x, few())[:min(1, len(rowsOf(x, few())))] {
			for i := range base {
				for _, f := range faults() {
					l := slices.Clone(base)
					l[i] = f.v
					if err := row.Check(x, l); err != f.err {
						t.Errorf("Check of %s, %s: %v, not %v", told(x), short(l), err, f.err)
					}
				}
			}
		}
	}
}

func TestRW1CheckByTheWords(t *testing.T) {
	for _, x := range tables() {
		for _, l := range lists(x) {
			if got, want := row.Check(x, l), checked(x, l); got != want {
				t.Errorf("Check of %s, %s: %v, not %v", told(x), short(l), got, want)
			}
		}
	}
}

// All lists of three values, right and wrong ones, of all tables of three columns.
func TestRW1CheckTellsTheFirst(t *testing.T) {
	some := list(null(), num(1), text("a"), truth(true), text("\x00"), text(strings.Repeat("a", api.MaxText+1)))
	for _, words := range []string{"ik to b", "io tk bo", "i t bk", "no xk tko", "iko iko iko"} {
		x := made(words)
		for _, a := range some {
			for _, b := range some {
				for _, c := range some {
					l := list(a, b, c)
					if got, want := row.Check(x, l), checked(x, l); got != want {
						t.Errorf("Check of %q, %s: %v, not %v", words, short(l), got, want)
					}
				}
			}
		}
	}
}

func TestRW2Key(t *testing.T) {
	one, minus := "\x02\x80\x00\x00\x00\x00\x00\x00\x01", "\x02\x7f\xff\xff\xff\xff\xff\xff\xff"
	for _, c := range []struct {
		words string
		l     []api.Value
		want  string
		err   error
	}{
		{"", nil, "", nil},
		{"i", list(num(1)), "", nil},
		{"io to", list(null(), null()), "", nil},
		{"ik", list(num(1)), one, nil},
		{"ik to", list(num(-1), null()), minus, nil},
		{"ik to", list(num(1), text("a")), one, nil},
		{"to ik", list(text("a"), num(1)), one, nil},
		{"ik tk", list(num(1), text("a")), one + "\x03a\x00", nil},
		{"tk ik", list(text("a"), num(1)), "\x03a\x00" + one, nil},
		{"tk bk", list(text("a"), truth(true)), "\x03a\x00\x04\x01", nil},
		{"bk to bk i tk", list(truth(false), null(), truth(true), num(5), text("")), "\x04\x00\x04\x01\x03\x00", nil},
		{strings.Repeat("bk ", api.MaxColumns), times(api.MaxColumns, truth(true)), strings.Repeat("\x04\x01", api.MaxColumns), nil},
		{strings.Repeat("bk io ", api.MaxColumns), slices.Repeat(list(truth(true), null()), api.MaxColumns), strings.Repeat("\x04\x01", api.MaxColumns), nil},
		{strings.Repeat("bk ", api.MaxColumns+1), times(api.MaxColumns+1, truth(true)), "", api.ErrLong},
		{strings.Repeat("bk io ", api.MaxColumns+1), slices.Repeat(list(truth(true), null()), api.MaxColumns+1), "", api.ErrLong},
		{strings.Repeat("bk ", 300), times(300, truth(true)), "", api.ErrLong},
		// Check's error is told first.
		{strings.Repeat("bk ", api.MaxColumns+1), times(api.MaxColumns, truth(true)), "", api.ErrArg},
		{strings.Repeat("bk ", api.MaxColumns+1), append(times(api.MaxColumns, truth(true)), null()), "", api.ErrNull},
		{strings.Repeat("bk ", api.MaxColumns+1), append(times(api.MaxColumns, truth(true)), num(1)), "", api.ErrKind},
		{strings.Repeat("bk ", api.MaxColumns+1) + "i", append(times(api.MaxColumns+1, truth(true)), text("\x00")), "", api.ErrForm},
		{"ik to", list(num(1)), "", api.ErrArg},
		{"ik to", list(num(1), null(), null()), "", api.ErrArg},
		{"ik to", list(null(), null()), "", api.ErrNull},
		{"iko to", list(null(), null()), "", api.ErrNull},
		{"nk", list(null()), "", api.ErrNull},
		{"ik to", list(text("1"), null()), "", api.ErrKind},
		{"ik to", list(num(1), num(1)), "", api.ErrKind},
		{"ik t", list(num(1), null()), "", api.ErrNull},
		{"ik to", list(num(1), text("\x7f")), "", api.ErrForm},
		{"ik to", list(num(1), text(strings.Repeat("a", api.MaxText+1))), "", api.ErrLong},
	} {
		if got, err := row.Key(made(c.words), c.l); got != c.want || err != c.err {
			t.Errorf("Key of %q, %s: %q, %v, not %q, %v", c.words, short(c.l), got, err, c.want, c.err)
		}
	}
}

func TestRW2KeyByTheWords(t *testing.T) {
	for _, x := range tables() {
		for _, l := range append(lists(x), rowsOf(x, values())...) {
			got, err := row.Key(x, l)
			if want, wantErr := keyed(x, l); got != want || err != wantErr {
				t.Errorf("Key of %s, %s: %.80q, %v, not %.80q, %v", told(x), short(l), got, err, want, wantErr)
			}
		}
	}
}

func TestRW2KeyOf(t *testing.T) {
	one := "\x02\x80\x00\x00\x00\x00\x00\x00\x01"
	for _, c := range []struct {
		words string
		l     []api.Value
		want  string
		err   error
	}{
		{"", nil, "", nil},
		{"", list(num(1)), "", api.ErrArg},
		{"i to b", nil, "", nil},
		{"i to b", list(num(1)), "", api.ErrArg},
		{"ik", list(num(1)), one, nil},
		{"ik", nil, "", api.ErrArg},
		{"ik", list(num(1), num(1)), "", api.ErrArg},
		{"ik to", list(num(1)), one, nil},
		{"ik to", list(num(1), text("a")), "", api.ErrArg},
		{"to ik", list(num(1)), one, nil},
		{"to ik", list(text("a")), "", api.ErrKind},
		{"ik to bk", list(num(1), truth(true)), one + "\x04\x01", nil},
		{"ik to bk", list(truth(true), num(1)), "", api.ErrKind},
		{"ik to bk", list(num(1)), "", api.ErrArg},
		{"ik to bk", list(num(1), null(), truth(true)), "", api.ErrArg},
		{"i tk t bk b", list(text(""), truth(false)), "\x03\x00\x04\x00", nil},
		// Null is of another kind, whether the column may be null or not.
		{"ik", list(null()), "", api.ErrKind},
		{"iko", list(null()), "", api.ErrKind},
		{"tk", list(null()), "", api.ErrKind},
		{"bk", list(null()), "", api.ErrKind},
		{"ik bk", list(num(1), null()), "", api.ErrKind},
		{"xk", list(null()), "", api.ErrKind},
		// A column that layer 15 would not let be is taken as it is, but no value is right there: null neither, be it of the column's kind.
		{"nk", list(null()), "", api.ErrKind},
		{"nko", list(null()), "", api.ErrKind},
		{"no", list(null()), "", api.ErrArg},
		{"nk", list(num(0)), "", api.ErrKind},
		{"nk", list(text("")), "", api.ErrKind},
		{"nk", list(truth(false)), "", api.ErrKind},
		{"nk", list(api.Value{Int: 1}), "", api.ErrForm},
		{"nk", list(text(strings.Repeat("a", api.MaxText+1))), "", api.ErrLong},
		{"nk", nil, "", api.ErrArg},
		{"nk", list(null(), null()), "", api.ErrArg},
		{"nk ik", list(null(), num(1)), "", api.ErrKind},
		{"ik nk", list(num(1), null()), "", api.ErrKind},
		{"ik nk ik", list(num(1), null(), api.Value{Kind: 9}), "", api.ErrKind},
		{"ik nk ik", list(api.Value{Kind: 9}, null(), num(1)), "", api.ErrForm},
		{"no ik nko", list(num(1), null()), "", api.ErrKind},
		{strings.Repeat("nk ", api.MaxColumns+1), times(api.MaxColumns+1, null()), "", api.ErrKind},
		{"xk", list(num(0)), "", api.ErrKind},
		{"xk", list(api.Value{Kind: 4}), "", api.ErrForm},
		{"yk", list(api.Value{Kind: -1}), "", api.ErrForm},
		// Of one value value.Valid's error is told first, of several that of the first one, and how many they are ahead of all.
		{"ik", list(api.Value{Text: "a"}), "", api.ErrForm},
		{"ik", list(text(strings.Repeat("a", api.MaxText+1))), "", api.ErrLong},
		{"tk", list(text(strings.Repeat("a", api.MaxText+1))), "", api.ErrLong},
		{"tk", list(text("\x1f")), "", api.ErrForm},
		{"ik tk", list(null(), text("\x00")), "", api.ErrKind},
		{"ik tk", list(text("\x00"), null()), "", api.ErrForm},
		{"ik tk", list(num(1), text("\x00")), "", api.ErrForm},
		{"ik tk", list(text("\x00")), "", api.ErrArg},
		{"ik tk", list(null(), null(), null()), "", api.ErrArg},
		{strings.Repeat("bk ", api.MaxColumns), times(api.MaxColumns, truth(true)), strings.Repeat("\x04\x01", api.MaxColumns), nil},
		{strings.Repeat("bk ", api.MaxColumns+1), times(api.MaxColumns+1, truth(true)), "", api.ErrLong},
		{strings.Repeat("bk io ", api.MaxColumns+1), times(api.MaxColumns+1, truth(true)), "", api.ErrLong},
		{strings.Repeat("bk ", 300), times(300, truth(true)), "", api.ErrLong},
		{strings.Repeat("bk ", api.MaxColumns+1), times(api.MaxColumns, truth(true)), "", api.ErrArg},
		{strings.Repeat("bk ", api.MaxColumns+1), times(api.MaxColumns+2, truth(true)), "", api.ErrArg},
		{strings.Repeat("bk ", api.MaxColumns+1), append(times(api.MaxColumns, truth(true)), null()), "", api.ErrKind},
		{strings.Repeat("bk ", api.MaxColumns+1), append(times(api.MaxColumns, truth(true)), api.Value{Kind: 9}), "", api.ErrForm},
	} {
		if got, err := row.KeyOf(made(c.words), c.l); got != c.want || err != c.err {
			t.Errorf("KeyOf of %q, %s: %q, %v, not %q, %v", c.words, short(c.l), got, err, c.want, c.err)
		}
	}
}

func TestRW2KeyOfByTheWords(t *testing.T) {
	for _, x := range tables() {
		for _, l := range append(keyLists(x), lists(x)...) {
			got, err := row.KeyOf(x, l)
			if want, wantErr := keyedOf(x, l); got != want || err != wantErr {
				t.Errorf("KeyOf of %s, %s: %.80q, %v, not %.80q, %v", told(x), short(l), got, err, want, wantErr)
			}
		}
	}
}

// Whatever the column, null is no value of a key, and what is right there is a row's, too.
func TestRW2KeyOfOfEachColumnAndValue(t *testing.T) {
	all := values()
	for _, f := range faults() {
		all = append(all, f.v)
	}
	for kind := -2; kind <= 5; kind++ {
		for _, may := range []bool{false, true} {
			x := api.Table{Columns: []api.Column{{Kind: kind, Key: true, Null: may}}}
			if s, err := row.KeyOf(x, list(null())); s != "" || err != api.ErrKind {
				t.Errorf("KeyOf of null, a column of Kind %d, Null %t: %q, %v", kind, may, s, err)
			}
			for _, v := range all {
				_, err := row.KeyOf(x, list(v))
				if want := wrongWithKey(x.Columns[0], v); err != want || (err == nil) != (row.Check(x, list(v)) == nil) {
					t.Errorf("KeyOf of %s, a column of Kind %d, Null %t: %v, not %v", short(list(v)), kind, may, err, want)
				}
			}
		}
	}
}

// KeyOf of the values of a row's key is the row's Key.
func TestRW2KeyOfIsTheKey(t *testing.T) {
	for _, x := range tables() {
		for _, l := range rowsOf(x, values()) {
			key, err := row.Key(x, l)
			if of, errOf := row.KeyOf(x, ofKey(x, l)); of != key || errOf != err {
				t.Errorf("KeyOf of %s, %s: %.80q, %v, but the Key is %.80q, %v", told(x), short(l), of, errOf, key, err)
			}
		}
	}
}

func TestRW3Encode(t *testing.T) {
	tops := bytes.Repeat([]byte{255}, 9)
	for _, c := range []struct {
		words string
		l     []api.Value
		want  []byte
		err   error
	}{
		{"", nil, nil, nil},
		{"ik to", list(num(-1), null()), []byte{1, 1, 0}, nil},
		{"i", list(num(0)), []byte{1, 0}, nil},
		{"i", list(num(1)), []byte{1, 2}, nil},
		{"i", list(num(-2)), []byte{1, 3}, nil},
		{"i", list(num(63)), []byte{1, 126}, nil},
		{"i", list(num(-64)), []byte{1, 127}, nil},
		{"i", list(num(64)), []byte{1, 128, 1}, nil},
		{"i", list(num(-65)), []byte{1, 129, 1}, nil},
		{"i", list(num(150)), []byte{1, 172, 2}, nil},
		{"i", list(num(math.MaxInt)), append(append([]byte{1, 254}, tops[:8]...), 1), nil},
		{"i", list(num(math.MinInt)), append(append([]byte{1}, tops...), 1), nil},
		{"io", list(null()), []byte{0}, nil},
		{"t", list(text("")), []byte{1, 0}, nil},
		{"t", list(text("a")), []byte{1, 1, 97}, nil},
		{"t", list(text(" ~'")), []byte{1, 3, 32, 126, 39}, nil},
		{"t", list(text(strings.Repeat("a", 127))), append([]byte{1, 127}, bytes.Repeat([]byte{97}, 127)...), nil},
		{"t", list(text(strings.Repeat("a", 128))), append([]byte{1, 128, 1}, bytes.Repeat([]byte{97}, 128)...), nil},
		{"t", list(text(strings.Repeat("z", api.MaxText))), append([]byte{1, 128, 32}, bytes.Repeat([]byte{122}, api.MaxText)...), nil},
		{"b", list(truth(false)), []byte{1, 0}, nil},
		{"b", list(truth(true)), []byte{1, 1}, nil},
		{"no", list(null()), []byte{0}, nil},
		{"xo yo", list(null(), null()), []byte{0, 0}, nil},
		{"ik tk bk", list(num(5), text("ab"), truth(true)), []byte{1, 10, 1, 2, 97, 98, 1, 1}, nil},
		{"bo tk i", list(null(), text("b"), num(-5)), []byte{0, 1, 1, 98, 1, 9}, nil},
		{"io io io", times(3, null()), []byte{0, 0, 0}, nil},
		// How many columns a table may have is not asked here.
		{strings.Repeat("bk ", api.MaxColumns+1), times(api.MaxColumns+1, truth(true)), bytes.Repeat([]byte{1}, 2*api.MaxColumns+2), nil},
		{strings.Repeat("bo ", 300), times(300, null()), make([]byte, 300), nil},
		{"", list(null()), nil, api.ErrArg},
		{"ik to", list(num(1)), nil, api.ErrArg},
		{"ik to", list(num(1), null(), null()), nil, api.ErrArg},
		{"ik to", list(null(), text("a")), nil, api.ErrNull},
		{"ik t", list(num(1), null()), nil, api.ErrNull},
		{"ik to", list(num(1), truth(true)), nil, api.ErrKind},
		{"ik to", list(num(1), text("\x80")), nil, api.ErrForm},
		{"ik to", list(num(1), text(strings.Repeat("a", api.MaxText+1))), nil, api.ErrLong},
		{"xo", list(num(1)), nil, api.ErrKind},
		{"n", list(null()), nil, api.ErrNull},
	} {
		if got, err := row.Encode(made(c.words), c.l); !bytes.Equal(got, c.want) || err != c.err {
			t.Errorf("Encode of %q, %s: %s, %v, not %s, %v", c.words, short(c.l), bytesOf(got), err, bytesOf(c.want), c.err)
		}
	}
}

func TestRW3EncodeByTheWords(t *testing.T) {
	for _, x := range tables() {
		for _, l := range append(lists(x), rowsOf(x, values())...) {
			got, err := row.Encode(x, l)
			if want, wantErr := encoded(x, l); !bytes.Equal(got, want) || err != wantErr {
				t.Errorf("Encode of %s, %s: %s, %v, not %s, %v", told(x), short(l), bytesOf(got), err, bytesOf(want), wantErr)
			}
		}
	}
}

func TestRW3DecodeRefuses(t *testing.T) {
	ten := bytes.Repeat([]byte{255}, 9)
	for _, c := range []struct {
		words string
		b     []byte
	}{
		{"", []byte{0}},
		{"", []byte{1}},
		{"i", nil},
		{"io", nil},
		{"io", []byte{}},
		{"i", []byte{1}},
		{"i", []byte{0}},
		{"ik", []byte{0}},
		{"iko", []byte{0}},
		{"io", []byte{0, 0}},
		{"io", []byte{2}},
		{"io", []byte{255}},
		{"i", []byte{2, 0}},
		{"i", []byte{128, 0}},
		{"i", []byte{1, 0, 0}},
		{"i", []byte{1, 128}},
		// A number in more bytes than it takes, of more than ten bytes, and of 2^64 and more.
		{"i", []byte{1, 128, 0}},
		{"i", []byte{1, 129, 128, 0}},
		{"i", append(append([]byte{1}, ten...), 2)},
		{"i", append(append([]byte{1}, ten...), 0)},
		{"i", append(append([]byte{1}, ten...), 255, 1)},
		{"t", []byte{1}},
		{"t", []byte{0}},
		{"t", []byte{1, 1}},
		{"t", []byte{1, 2, 97}},
		{"t", []byte{1, 0, 97}},
		{"t", []byte{1, 1, 97, 97}},
		// A length in more bytes than it takes, and one that is cut.
		{"t", []byte{1, 129, 0, 97}},
		{"t", []byte{1, 128, 0}},
		{"t", []byte{1, 129}},
		{"t", append(append([]byte{1}, ten...), 1, 97)},
		// Texts that may not be.
		{"t", []byte{1, 1, 31}},
		{"t", []byte{1, 1, 0}},
		{"t", []byte{1, 1, 127}},
		{"t", []byte{1, 2, 97, 128}},
		{"t", []byte{1, 2, 195, 169}},
		{"t", append([]byte{1, 129, 32}, bytes.Repeat([]byte{97}, api.MaxText+1)...)},
		{"b", []byte{1}},
		{"b", []byte{0}},
		{"b", []byte{1, 2}},
		{"b", []byte{1, 128}},
		{"b", []byte{1, 255}},
		{"b", []byte{1, 0, 0}},
		{"b", []byte{1, 1, 1}},
		{"b", []byte{2, 1}},
		// Columns of no kind have null at most.
		{"n", []byte{0}},
		{"no", []byte{1}},
		{"no", []byte{1, 0}},
		{"nk", []byte{0}},
		{"xo", []byte{1, 1}},
		{"xo", []byte{1}},
		{"x", []byte{0}},
		{"yo", []byte{1, 0}},
		{"ik to", []byte{1, 1}},
		{"ik to", []byte{1, 1, 1}},
		{"ik to", []byte{1, 1, 2}},
		{"ik to", []byte{0, 0}},
		{"ik to", []byte{0, 1, 1, 97}},
		{"ik to", []byte{1, 1, 0, 0}},
		{"ik t", []byte{1, 1, 0}},
		{"io to bo", []byte{0, 0}},
		{"io to bo", []byte{0, 0, 0, 0}},
	} {
		if l, err := row.Decode(made(c.words), c.b); len(l) != 0 || err != api.ErrForm {
			t.Errorf("Decode of %q, %s: %s, %v, not 3", c.words, bytesOf(c.b), short(l), err)
		}
	}
}

func TestRW3Decode(t *testing.T) {
	for _, c := range []struct {
		words string
		b     []byte
		want  []api.Value
	}{
		{"", nil, nil},
		{"", []byte{}, nil},
		{"ik to", []byte{1, 1, 0}, list(num(-1), null())},
		{"ik to", []byte{1, 0, 1, 0}, list(num(0), text(""))},
		{"io", []byte{0}, list(null())},
		{"io", []byte{1, 0}, list(num(0))},
		{"bo bo bo", []byte{0, 1, 0, 1, 1}, list(null(), truth(false), truth(true))},
		{"xo no yo", []byte{0, 0, 0}, times(3, null())},
		{"t i", []byte{1, 1, 49, 1, 49}, list(text("1"), num(-25))},
		{"tk tk", []byte{1, 2, 97, 98, 1, 0}, list(text("ab"), text(""))},
		{"t", append([]byte{1, 128, 32}, bytes.Repeat([]byte{97}, api.MaxText)...), list(text(strings.Repeat("a", api.MaxText)))},
		{"i", append(append([]byte{1}, bytes.Repeat([]byte{255}, 9)...), 1), list(num(math.MinInt))},
		{strings.Repeat("bk ", api.MaxColumns+1), bytes.Repeat([]byte{1}, 2*api.MaxColumns+2), times(api.MaxColumns+1, truth(true))},
	} {
		if l, err := row.Decode(made(c.words), c.b); !slices.Equal(l, c.want) || err != nil {
			t.Errorf("Decode of %q, %s: %s, %v, not %s", c.words, bytesOf(c.b), short(l), err, short(c.want))
		}
	}
}

// reads holds Decode to its words: what it tells is a row of which these are the Encode, and what it refuses is no Encode of a row that begins as they do.
func reads(t *testing.T, x api.Table, b []byte) {
	t.Helper()
	l, err := row.Decode(x, b)
	if err == nil {
		if again, wrong := encoded(x, l); wrong != nil || !bytes.Equal(again, b) {
			t.Errorf("Decode of %s, %s: %s, whose Encode is %s, %v", told(x), bytesOf(b), short(l), bytesOf(again), wrong)
		}
		return
	}
	if err != api.ErrForm || len(l) != 0 {
		t.Errorf("Decode of %s, %s: %s, %v, not 3", told(x), bytesOf(b), short(l), err)
	}
	if want, ok := found(x.Columns, b); ok {
		t.Errorf("Decode of %s, %s: %v, but it is the Encode of %s", told(x), bytesOf(b), err, short(want))
	}
}

// found looks for the row of bytes another way than Decode does: a value of each size that it may have is tried, and what stands behind it is the rest of the row.
func found(columns []api.Column, b []byte) ([]api.Value, bool) {
	if len(columns) == 0 {
		return nil, len(b) == 0
	}
	for size := 1; size <= min(len(b), api.MaxText+3); size++ {
		v, ok := valueOf(columns[0].Kind, b[:size])
		if !ok || wrongWith(columns[0], v) != nil {
			continue
		}
		if rest, ok := found(columns[1:], b[size:]); ok {
			return append(list(v), rest...), true
		}
	}
	return nil, false
}

// valueOf is the value of which b are all bytes, by laying each that might be.
func valueOf(kind int, b []byte) (api.Value, bool) {
	tries := list(null())
	switch kind {
	case api.KindInt:
		var sum uint64
		for i, c := range b[1:] {
			sum += uint64(c%128) << (7 * i)
		}
		tries = append(tries, num(int(sum/2)), num(-int(sum/2)-1))
	case api.KindText:
		for head := 2; head <= min(3, len(b)); head++ {
			tries = append(tries, text(string(b[head:])))
		}
	case api.KindBool:
		tries = append(tries, truth(false), truth(true))
	}
	for _, v := range tries {
		if bytes.Equal(laid(v), b) {
			return v, true
		}
	}
	return api.Value{}, false
}

// All rows of at most three bytes, and all bytes that are as few: each of these rows is told, and nothing else is.
func TestRW3DecodeOfAllShortBytes(t *testing.T) {
	values, all := shortValues(), shortBytes()
	for _, words := range []string{"", "i", "io", "ik", "t", "to", "tk", "b", "bo", "bk", "no", "xo", "n", "i bo", "bo to", "bo bo", "to io"} {
		x := made(words)
		rows := map[string][]api.Value{}
		addShortRows(rows, x.Columns, values, "", nil)
		told := 0
		for _, b := range all {
			l, err := row.Decode(x, b)
			want, ok := rows[string(b)]
			if ok {
				told++
			}
			if ok != (err == nil) || !slices.Equal(l, want) {
				t.Fatalf("Decode of %q, %v: %s, %v, not %s", words, b, short(l), err, short(want))
			}
		}
		if told != len(rows) || (told == 0) != (words == "n") {
			t.Errorf("%d of %d rows of %q", told, len(rows), words)
		}
	}
}

// shortValues are all whose bytes are at most three, also such as may not be.
func shortValues() []api.Value {
	out := list(null(), truth(false), truth(true), text(""))
	for n := -8192; n < 8192; n++ {
		out = append(out, num(n))
	}
	for c := range 256 {
		out = append(out, text(string([]byte{byte(c)})))
	}
	return out
}

// addShortRows adds all rows of at most three bytes of which ahead are the first values, and head their bytes.
func addShortRows(rows map[string][]api.Value, columns []api.Column, of []api.Value, head string, ahead []api.Value) {
	if len(columns) == 0 {
		rows[head] = ahead
		return
	}
	for _, v := range rightFor(columns[0], of) {
		if longer := head + string(laid(v)); len(longer)+len(columns)-1 <= 3 {
			addShortRows(rows, columns[1:], of, longer, append(slices.Clone(ahead), v))
		}
	}
}

// shortBytes are all of up to two bytes, and of three all that begin with one that may stand there, or with the one behind it.
func shortBytes() [][]byte {
	out := [][]byte{{}}
	for a := range 256 {
		out = append(out, []byte{byte(a)})
		for b := range 256 {
			out = append(out, []byte{byte(a), byte(b)})
			for c := range 256 {
				if a <= 1 || a == 2 && b <= 1 {
					out = append(out, []byte{byte(a), byte(b), byte(c)})
				}
			}
		}
	}
	return out
}

// The bytes of rows cut anywhere, with bytes behind them, and with one byte changed, left out or put in.
func TestRW3DecodeNearAnEncode(t *testing.T) {
	for _, x := range tables() {
		if len(x.Columns) > 6 {
			continue
		}
		rows := rowsOf(x, few())
		for _, l := range rows[:min(25, len(rows))] {
			b, err := row.Encode(x, l)
			if err != nil {
				t.Fatalf("Encode of %s, %s: %v", told(x), short(l), err)
			}
			for n := range b {
				if cut, err := row.Decode(x, b[:n]); len(cut) != 0 || err != api.ErrForm {
					t.Errorf("Decode of %s, %s cut to %d: %s, %v", told(x), bytesOf(b), n, short(cut), err)
				}
				reads(t, x, b[n:])
				reads(t, x, slices.Delete(slices.Clone(b), n, n+1))
				for _, c := range []byte{0, 1, 2, 3, 31, 32, 97, 126, 127, 128, 129, 255} {
					reads(t, x, slices.Insert(slices.Clone(b), n, c))
					changed := slices.Clone(b)
					changed[n] = c
					reads(t, x, changed)
				}
			}
			for _, tail := range [][]byte{{0}, {1}, {255}, {0, 0}, b} {
				if len(tail) == 0 {
					continue
				}
				if more, err := row.Decode(x, append(slices.Clone(b), tail...)); len(more) != 0 || err != api.ErrForm {
					t.Errorf("Decode of %s, %s with %v behind: %s, %v", told(x), bytesOf(b), tail, short(more), err)
				}
			}
		}
	}
}

// Long values too are refused where they are cut, wherever that is, and where a byte stands behind them.
func TestRW3DecodeOfWhatIsCut(t *testing.T) {
	for _, words := range []string{"i", "tk", "b", "to"} {
		x := made(words)
		for _, v := range rightFor(x.Columns[0], values()) {
			b, _ := row.Encode(x, list(v))
			for n := range b {
				if l, err := row.Decode(x, b[:n]); len(l) != 0 || err != api.ErrForm {
					t.Errorf("Decode of %q, %s cut to %d: %s, %v", words, bytesOf(b), n, short(l), err)
				}
			}
			for c := range 256 {
				if l, err := row.Decode(x, append(slices.Clone(b), byte(c))); len(l) != 0 || err != api.ErrForm {
					t.Errorf("Decode of %q, %s with %d behind: %s, %v", words, bytesOf(b), c, short(l), err)
				}
			}
		}
	}
}

// The bytes of lists that are no rows of a table are refused, also where they are a row's of another one.
func TestRW3DecodeOfAnotherTable(t *testing.T) {
	for _, from := range tables() {
		for _, l := range rowsOf(from, few())[:min(20, len(rowsOf(from, few())))] {
			for _, to := range tables() {
				reads(t, to, laidAll(l))
			}
		}
	}
	x := made("ik to b")
	for _, l := range lists(x) {
		got, err := row.Decode(x, laidAll(l))
		if checked(x, l) == nil && (err != nil || !slices.Equal(got, l)) {
			t.Errorf("Decode of the bytes of %s: %s, %v", short(l), short(got), err)
		}
	}
}

// Each byte as the first of a value, and as a truth.
func TestRW3DecodeOfEachByte(t *testing.T) {
	x := made("bo")
	for c := range 256 {
		for d := range 256 {
			_, err := row.Decode(x, []byte{byte(c), byte(d)})
			if want := c == 1 && d <= 1; (err == nil) != want {
				t.Errorf("Decode of %d %d: %v", c, d, err)
			}
		}
	}
	for c := range 256 {
		_, err := row.Decode(made("t"), []byte{1, 3, 97, byte(c), 97})
		if want := c >= 32 && c <= 126; (err == nil) != want {
			t.Errorf("Decode of a text with %d: %v", c, err)
		}
	}
}

func TestRW4Text(t *testing.T) {
	for _, c := range []struct {
		l    []api.Value
		want string
		err  error
	}{
		{nil, "", nil},
		{list(), "", nil},
		{list(null()), "NULL", nil},
		{list(num(0)), "0", nil},
		{list(num(-12)), "-12", nil},
		{list(num(math.MinInt), num(math.MaxInt)), "-9223372036854775808, 9223372036854775807", nil},
		{list(text("")), "''", nil},
		{list(text("it's")), "'it''s'", nil},
		{list(text(", "), text("', '")), "', ', ''', '''", nil},
		{list(truth(true), truth(false)), "TRUE, FALSE", nil},
		{list(num(-1), null()), "-1, NULL", nil},
		{list(num(1), text("a"), truth(true), null()), "1, 'a', TRUE, NULL", nil},
		{times(3, null()), "NULL, NULL, NULL", nil},
		{times(300, num(7)), strings.Repeat("7, ", 299) + "7", nil},
		{list(text(strings.Repeat("'", api.MaxText))), "'" + strings.Repeat("'", 2*api.MaxText) + "'", nil},
		{list(api.Value{Kind: 4}), "", api.ErrForm},
		{list(num(1), text("\x00")), "", api.ErrForm},
		{list(num(1), text("\x00"), num(1)), "", api.ErrForm},
		{list(text(strings.Repeat("a", api.MaxText+1)), text("\x00")), "", api.ErrLong},
		{list(text("\x00"), text(strings.Repeat("a", api.MaxText+1))), "", api.ErrForm},
		{append(times(300, num(7)), text(strings.Repeat("a", api.MaxText+1))), "", api.ErrLong},
	} {
		if got, err := row.Text(c.l); got != c.want || err != c.err {
			t.Errorf("Text of %s: %.80q, %v, not %.80q, %v", short(c.l), got, err, c.want, c.err)
		}
	}
}

func TestRW4TextByTheWords(t *testing.T) {
	all := values()
	for _, f := range faults() {
		all = append(all, f.v)
	}
	for i, a := range all {
		for _, l := range [][]api.Value{list(a), list(a, all[(i*31+7)%len(all)]), list(null(), a), list(a, a, all[(i*17+3)%len(all)])} {
			want, wantErr := "", error(nil)
			for k, v := range l {
				s, err := value.Print(v)
				if err != nil {
					want, wantErr = "", err
					break
				}
				if k > 0 {
					want += ", "
				}
				want += s
			}
			if got, err := row.Text(l); got != want || err != wantErr {
				t.Errorf("Text of %s: %.80q, %v, not %.80q, %v", short(l), got, err, want, wantErr)
			}
		}
	}
}

func TestRW5DecodeOfEncode(t *testing.T) {
	for _, x := range tables() {
		for _, l := range rowsOf(x, values()) {
			b, err := row.Encode(x, l)
			if err != nil {
				t.Fatalf("Encode of %s, %s: %v", told(x), short(l), err)
			}
			if got, err := row.Decode(x, b); err != nil || !slices.Equal(got, l) {
				t.Errorf("Decode of Encode of %s, %s: %s, %v", told(x), short(l), short(got), err)
			}
		}
	}
}

// Rows of one table: their Keys are ordered as the values of their keys are, and their bytes are the same just where they are.
func TestRW5RowsHeldAgainstEachOther(t *testing.T) {
	for _, x := range tables() {
		if len(columnsOfKey(x)) > api.MaxColumns {
			continue
		}
		rows := rowsOf(x, values())
		if len(rows) > 400 {
			rand.New(rand.NewSource(1)).Shuffle(len(rows), func(i, k int) { rows[i], rows[k] = rows[k], rows[i] })
			rows = rows[:400]
		}
		keys, bodies := make([]string, len(rows)), make([]string, len(rows))
		for i, l := range rows {
			key, err := row.Key(x, l)
			body, wrong := row.Encode(x, l)
			if err != nil || wrong != nil {
				t.Fatalf("%s, %s: %v, %v", told(x), short(l), err, wrong)
			}
			keys[i], bodies[i] = key, string(body)
		}
		for i, a := range rows {
			for k, b := range rows {
				if got, want := strings.Compare(keys[i], keys[k]), inOrder(ofKey(x, a), ofKey(x, b)); got != want {
					t.Fatalf("the Keys of %s, %s and %s: %d, not %d", told(x), short(a), short(b), got, want)
				}
				if got, want := bodies[i] == bodies[k], slices.Equal(a, b); got != want {
					t.Fatalf("the bytes of %s, %s and %s are the same: %t", told(x), short(a), short(b), got)
				}
			}
		}
	}
}

// inOrder puts two lists of as many values in order, by the first pair that differs.
func inOrder(a, b []api.Value) int {
	for i := range a {
		if c := value.Compare(a[i], b[i]); c != 0 {
			return c
		}
	}
	return 0
}

// roomy is a list with values behind its end.
func roomy(l []api.Value) []api.Value {
	return append(slices.Clone(l), num(7), text("room"), truth(true))
}

// What is handed in stays as it is, with the room behind it, which is not read.
func TestP7ArgumentsStay(t *testing.T) {
	for _, x := range tables() {
		columns := append(slices.Clone(x.Columns), api.Column{Name: "room", Kind: api.KindInt, Key: true})
		was := slices.Clone(columns)
		y := api.Table{Name: x.Name, Columns: columns[:len(x.Columns)]}
		for _, l := range lists(x)[:min(30, len(lists(x)))] {
			room := roomy(l)
			before := slices.Clone(room)
			l := room[:len(l)]
			if got, want := row.Check(y, l), checked(x, l); got != want {
				t.Errorf("Check of %s, %s: %v, not %v", told(x), short(l), got, want)
			}
			row.Key(y, l)
			row.KeyOf(y, l)
			row.Text(l)
			b, _ := row.Encode(y, l)
			bytesRoom := append(slices.Clone(b), 1, 2, 3)
			bytesWere := slices.Clone(bytesRoom)
			got, err := row.Decode(y, bytesRoom[:len(b)])
			if checked(x, l) == nil && (err != nil || !slices.Equal(got, l)) {
				t.Errorf("Decode of %s, %s: %s, %v", told(x), bytesOf(b), short(got), err)
			}
			if !slices.Equal(room, before) || !slices.Equal(columns, was) || !bytes.Equal(bytesRoom, bytesWere) {
				t.Errorf("%s became %s, or %s became something else", short(before), short(room), told(x))
			}
		}
		if got, want := row.Keys(y), row.Keys(x); !slices.Equal(got, want) {
			t.Errorf("Keys of %s: %v, not %v", told(x), got, want)
		}
	}
}

// Each answer is its own memory, spare room too; what it is told of may be spoiled.
func TestP7AnswersAreNew(t *testing.T) {
	for _, x := range tables() {
		places := row.Keys(x)
		want := slices.Clone(places)
		for i := range places[:cap(places)] {
			places[:cap(places)][i] = -1
		}
		if got := row.Keys(x); !slices.Equal(got, want) {
			t.Errorf("Keys of %s: %v, then %v", told(x), want, got)
		}
		for _, l := range rowsOf(x, few())[:min(30, len(rowsOf(x, few())))] {
			b, _ := row.Encode(x, l)
			other, _ := row.Encode(x, l)
			for i := range b[:cap(b)] {
				b[:cap(b)][i] = 255
			}
			if !bytes.Equal(other, laidAll(l)) {
				t.Errorf("Encode of %s, %s became %s", told(x), short(l), bytesOf(other))
			}
			first, _ := row.Decode(x, other)
			second, _ := row.Decode(x, other)
			for i := range first[:cap(first)] {
				first[:cap(first)][i] = api.Value{Kind: -1, Text: "spoiled"}
			}
			clear(other)
			if !slices.Equal(second, l) {
				t.Errorf("Decode of %s, %s became %s", told(x), short(l), short(second))
			}
		}
	}
}

// The same is answered, however often and by how many it is asked.
func TestP7Alone(t *testing.T) {
	x := made("bo tk i bk to")
	l := list(null(), text("a"), num(-300), truth(true), text("it's"))
	var all sync.WaitGroup
	for range 8 {
		all.Go(func() {
			for range 200 {
				key, err := row.Key(x, l)
				b, wrong := row.Encode(x, l)
				again, refused := row.Decode(x, b)
				s, unread := row.Text(again)
				if err != nil || wrong != nil || refused != nil || unread != nil || key != "\x03a\x00\x04\x01" || s != "NULL, 'a', -300, TRUE, 'it''s'" {
					t.Errorf("%q, %v, %v, %v, %q, %v", key, err, wrong, refused, s, unread)
				}
			}
		})
	}
	all.Wait()
}

// Nil and the empty list are the same.
func TestP7NilAndEmpty(t *testing.T) {
	for _, x := range []api.Table{{}, {Columns: []api.Column{}}, {Name: "t", Columns: nil}} {
		for _, l := range [][]api.Value{nil, {}} {
			key, err := row.Key(x, l)
			of, wrong := row.KeyOf(x, l)
			b, refused := row.Encode(x, l)
			if row.Check(x, l) != nil || key+of != "" || err != nil || wrong != nil || len(b) != 0 || refused != nil || len(row.Keys(x)) != 0 {
				t.Errorf("%v, %v: %q, %v, %q, %v, %v, %v", x, l, key, err, of, wrong, b, refused)
			}
		}
		for _, b := range [][]byte{nil, {}} {
			if l, err := row.Decode(x, b); len(l) != 0 || err != nil {
				t.Errorf("Decode of %v: %s, %v", b, short(l), err)
			}
		}
	}
}

// A table of very many columns is gone over once, and few bytes of it are refused at once.
func TestP7Ends(t *testing.T) {
	const n = 1 << 18
	x := api.Table{Columns: slices.Repeat(made("io").Columns, n)}
	l := times(n, num(1))
	b, err := row.Encode(x, l)
	if err != nil || len(b) != 2*n {
		t.Fatalf("Encode: %d bytes, %v", len(b), err)
	}
	if got, err := row.Decode(x, b); err != nil || !slices.Equal(got, l) {
		t.Errorf("Decode: %d values, %v", len(got), err)
	}
	for range 10000 {
		if _, err := row.Decode(x, b[:1]); err != api.ErrForm {
			t.Fatalf("Decode: %v", err)
		}
	}
}

// FuzzRow reads any bytes as a row of any table, and as values for its columns.
func FuzzRow(f *testing.F) {
	for _, x := range tables() {
		for _, l := range rowsOf(x, few())[:min(3, len(rowsOf(x, few())))] {
			f.Add(lettersOf(x), laidAll(l))
		}
	}
	f.Add([]byte{5, 6}, []byte{1, 128, 0, 0})
	f.Fuzz(func(t *testing.T, letters, b []byte) {
		var x api.Table
		for _, c := range letters[:min(len(letters), 40)] {
			x.Columns = append(x.Columns, api.Column{Kind: int(c>>2) % 5, Key: c&1 == 1, Null: c&2 == 2})
		}
		reads(t, x, b)
		l, err := row.Decode(x, b)
		if err != nil {
			l = make([]api.Value, len(b)%20)
			for i := range l {
				l[i] = few()[int(b[i])%len(few())]
			}
		}
		key, wrong := row.Key(x, l)
		if want, wantErr := keyed(x, l); key != want || wrong != wantErr {
			t.Errorf("Key of %s, %s: %q, %v, not %q, %v", told(x), short(l), key, wrong, want, wantErr)
		}
		of, wrong := row.KeyOf(x, l)
		if want, wantErr := keyedOf(x, l); of != want || wrong != wantErr {
			t.Errorf("KeyOf of %s, %s: %q, %v, not %q, %v", told(x), short(l), of, wrong, want, wantErr)
		}
		if got, want := row.Check(x, l), checked(x, l); got != want {
			t.Errorf("Check of %s, %s: %v, not %v", told(x), short(l), got, want)
		}
	})
}

// lettersOf are columns as FuzzRow reads them.
func lettersOf(x api.Table) []byte {
	var out []byte
	for _, c := range x.Columns {
		letter := byte(c.Kind+5) % 5 << 2
		if c.Key {
			letter |= 1
		}
		if c.Null {
			letter |= 2
		}
		out = append(out, letter)
	}
	return out
}
