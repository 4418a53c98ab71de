package table_test

import (
	"fmt"
	"math"
	"math/rand"
	"reflect"
	"regexp"
	"slices"
	"strings"
	"sync"
	"testing"

	"barbican/api"
	"barbican/table"
)

// words are the reserved words, as the chapter lists them.
const words = "and, as, asc, begin, bool, by, commit, count, delete, desc, explain, false, from, group, insert, int, into, is, key, label, limit, max, min, not, null, or, order, release, rollback, select, set, sum, table, text, true, update, values, view, where"

func reserved() []string { return strings.Split(words, ", ") }

var nameForm = regexp.MustCompile(`\A[a-z][a-z0-9_]*\z`)

// named is Name by its words.
func named(s string) bool {
	return nameForm.MatchString(s) && len(s) <= 32 && !slices.Contains(reserved(), s)
}

// Columns in short: a name, and of the key or not, or one that may be null.
func plain(name string, kind int) api.Column { return api.Column{Name: name, Kind: kind} }
func key(name string, kind int) api.Column   { return api.Column{Name: name, Kind: kind, Key: true} }
func null(name string, kind int) api.Column  { return api.Column{Name: name, Kind: kind, Null: true} }
func both(name string, kind int) api.Column {
	return api.Column{Name: name, Kind: kind, Key: true, Null: true}
}

func made(name string, columns ...api.Column) api.Table {
	return api.Table{Name: name, Columns: columns}
}

// wide are n columns, each with a name of its own, the last one of the key.
func wide(n int) []api.Column {
	var out []api.Column
	for i := range n {
		out = append(out, plain(fmt.Sprintf("c%d", i), 1+i%3))
	}
	if n > 0 {
		out[n-1].Key = true
	}
	return out
}

// checked is Check by its words.
func checked(t api.Table) error {
	if !named(t.Name) {
		return api.ErrName
	}
	if len(t.Columns) == 0 {
		return api.ErrArg
	}
	if len(t.Columns) > 16 {
		return api.ErrLong
	}
	seen, keys := map[string]bool{}, 0
	for _, c := range t.Columns {
		if !named(c.Name) {
			return api.ErrName
		}
		if seen[c.Name] {
			return api.ErrTwice
		}
		if c.Kind < 1 || c.Kind > 3 {
			return api.ErrKind
		}
		if c.Key && c.Null {
			return api.ErrNull
		}
		seen[c.Name] = true
		if c.Key {
			keys++
		}
	}
	if keys == 0 {
		return api.ErrNone
	}
	return nil
}

// told is Text by its words.
func told(t api.Table) (string, error) {
	if err := checked(t); err != nil {
		return "", err
	}
	s := "TABLE " + t.Name + " ("
	for i, c := range t.Columns {
		if i > 0 {
			s += ", "
		}
		s += c.Name + " " + []string{"NULL", "INT", "TEXT", "BOOL"}[c.Kind]
		if c.Key {
			s += " KEY"
		}
		if c.Null {
			s += " NULL"
		}
	}
	return s + ")", nil
}

var (
	textForm   = regexp.MustCompile(`\ATABLE ([a-z][a-z0-9_]*) \((.*)\)\z`)
	columnForm = regexp.MustCompile(`\A([a-z][a-z0-9_]*) (INT|TEXT|BOOL)( KEY| NULL)?\z`)
)

// read is Parse by its words.
func read(s string) (api.Table, error) {
	parts := textForm.FindStringSubmatch(s)
	if parts == nil {
		return api.Table{}, api.ErrForm
	}
	t := api.Table{Name: parts[1]}
	for _, text := range strings.Split(parts[2], ", ") {
		column := columnForm.FindStringSubmatch(text)
		if column == nil {
			return api.Table{}, api.ErrForm
		}
		t.Columns = append(t.Columns, api.Column{
			Name: column[1], Kind: map[string]int{"INT": 1, "TEXT": 2, "BOOL": 3}[column[2]],
			Key: column[3] == " KEY", Null: column[3] == " NULL",
		})
	}
	if checked(t) != nil {
		return api.Table{}, api.ErrForm
	}
	return t, nil
}

// same tells whether two tables are the same; nil and the empty list are.
func same(a, b api.Table) bool { return a.Name == b.Name && slices.Equal(a.Columns, b.Columns) }

// right are tables that may be, and their texts.
func right() map[string]api.Table {
	long := "abcdefghijklmnopqrstuvwxyz_01239"
	return map[string]api.Table{
		"TABLE t (k INT KEY, s TEXT NULL)":           made("t", key("k", 1), null("s", 2)),
		"TABLE t (k INT KEY)":                        made("t", key("k", 1)),
		"TABLE t (k TEXT KEY)":                       made("t", key("k", 2)),
		"TABLE t (k BOOL KEY)":                       made("t", key("k", 3)),
		"TABLE t (t BOOL KEY)":                       made("t", key("t", 3)),
		"TABLE t (a INT, b TEXT, c BOOL, k INT KEY)": made("t", plain("a", 1), plain("b", 2), plain("c", 3), key("k", 1)),
		"TABLE t (a INT NULL, b TEXT NULL, c BOOL NULL, d INT KEY, e TEXT KEY, f BOOL KEY)": made("t", null("a", 1), null("b", 2), null("c", 3), key("d", 1), key("e", 2), key("f", 3)),
		"TABLE t (x TEXT KEY, y INT, x1 TEXT NULL, x_ INT KEY)":                             made("t", key("x", 2), plain("y", 1), null("x1", 2), key("x_", 1)),
		"TABLE z9_ (a_0 INT KEY)":                                made("z9_", key("a_0", 1)),
		"TABLE tables (keys INT KEY, nulls TEXT NULL, int0 INT)": made("tables", key("keys", 1), null("nulls", 2), plain("int0", 1)),
		"TABLE " + long + " (" + long + " BOOL KEY)":             made(long, key(long, 3)),
		"TABLE m (c0 INT, c1 TEXT, c2 BOOL, c3 INT, c4 TEXT, c5 BOOL, c6 INT, c7 TEXT, c8 BOOL, c9 INT, c10 TEXT, c11 BOOL, c12 INT, c13 TEXT, c14 BOOL, c15 INT KEY)": made("m", wide(16)...),
	}
}

// fault is a table that may not be, and its error.
type fault struct {
	what  string
	table api.Table
	want  error
}

// bigger is a list with a column put in at a place.
func bigger(columns []api.Column, at int, c api.Column) []api.Column {
	return slices.Insert(slices.Clone(columns), at, c)
}

// faults are tables that may not be, with one thing wrong and with several.
func faults() []fault {
	k, full, long := key("k", 1), wide(16), strings.Repeat("a", 33)
	out := []fault{
		{"zero", api.Table{}, api.ErrName},
		{"no name", made("", k), api.ErrName},
		{"a name too long", made(long, k), api.ErrName},
		{"a great letter", made("T", k), api.ErrName},
		{"a reserved word", made("select", k), api.ErrName},
		{"no name, no columns", made("1"), api.ErrName},
		{"no name, too many columns", made("a b", wide(17)...), api.ErrName},
		{"no name, a column without", made("_a", plain("", 1)), api.ErrName},
		{"no name, a column twice", made("a-", k, k), api.ErrName},
		{"no name, a wrong kind", made("é", key("k", 9)), api.ErrName},
		{"no name, both", made(" t", both("k", 1)), api.ErrName},
		{"no name, no key", made("t ", plain("k", 1)), api.ErrName},

		{"nil columns", made("t"), api.ErrArg},
		{"no columns", api.Table{Name: "t", Columns: []api.Column{}}, api.ErrArg},

		{"one column more than MaxColumns", made("t", wide(17)...), api.ErrLong},
		{"many columns", made("t", wide(1000)...), api.ErrLong},
		{"too many, the first without a name", made("t", bigger(full, 0, plain("", 1))...), api.ErrLong},
		{"too many, the last without a name", made("t", bigger(full, 16, plain("", 1))...), api.ErrLong},
		{"too many, all the same", made("t", slices.Repeat([]api.Column{k}, 17)...), api.ErrLong},
		{"too many, a wrong kind", made("t", bigger(full, 3, plain("x", 0))...), api.ErrLong},
		{"too many, both", made("t", bigger(full, 16, both("x", 1))...), api.ErrLong},
		{"too many, no key", made("t", wide(18)[:17]...), api.ErrLong},

		{"a column without a name", made("t", key("", 1)), api.ErrName},
		{"a column with a long name", made("t", k, plain(long, 1)), api.ErrName},
		{"a column with a reserved word", made("t", k, plain("label", 1)), api.ErrName},
		{"the last of MaxColumns without a name", made("t", append(wide(15), plain("X", 1))...), api.ErrName},
		{"two columns without a name", made("t", k, plain("", 1), plain("", 1)), api.ErrName},
		{"no name of a column, and a wrong kind", made("t", k, plain("A", 7)), api.ErrName},
		{"no name of a column, and both", made("t", k, both("A", 1)), api.ErrName},
		{"no name of a column, and no key", made("t", plain("a", 1), plain("A", 1)), api.ErrName},
		{"no name of a column ahead of one twice", made("t", k, plain("", 1), k), api.ErrName},
		{"no name of a column ahead of a wrong kind", made("t", k, plain("", 1), plain("x", 0)), api.ErrName},
		{"no name of a column ahead of both", made("t", plain("9", 1), both("x", 1)), api.ErrName},

		{"twice beside each other", made("t", k, k), api.ErrTwice},
		{"twice apart", made("t", k, plain("a", 1), plain("b", 2), plain("k", 2)), api.ErrTwice},
		{"twice, neither the first", made("t", k, plain("a", 1), plain("b", 2), plain("a", 1)), api.ErrTwice},
		{"the first and the last of MaxColumns", made("t", append(wide(15), plain("c0", 1))...), api.ErrTwice},
		{"the last two of MaxColumns", made("t", append(wide(15), plain("c14", 1))...), api.ErrTwice},
		{"thrice", made("t", k, k, k), api.ErrTwice},
		{"twice, and a wrong kind", made("t", k, plain("k", 0)), api.ErrTwice},
		{"twice, and both", made("t", k, both("k", 1)), api.ErrTwice},
		{"twice, and no key", made("t", plain("a", 1), plain("a", 1)), api.ErrTwice},
		{"twice ahead of no name", made("t", k, k, plain("", 1)), api.ErrTwice},
		{"twice ahead of a wrong kind", made("t", k, k, plain("x", -1)), api.ErrTwice},
		{"twice ahead of both", made("t", k, k, both("x", 1)), api.ErrTwice},

		{"null's kind", made("t", key("k", api.KindNull)), api.ErrKind},
		{"null's kind of one that may be null", made("t", k, null("a", api.KindNull)), api.ErrKind},
		{"a kind above", made("t", k, plain("a", 4)), api.ErrKind},
		{"a kind below", made("t", k, plain("a", -1)), api.ErrKind},
		{"the greatest kind", made("t", k, plain("a", math.MaxInt)), api.ErrKind},
		{"the least kind", made("t", k, plain("a", math.MinInt)), api.ErrKind},
		{"a kind that is 1 in its low bits", made("t", k, plain("a", 1<<32|1)), api.ErrKind},
		{"a wrong kind of the last of MaxColumns", made("t", bigger(wide(15), 15, plain("x", 0))...), api.ErrKind},
		{"a wrong kind, and both", made("t", both("k", 0)), api.ErrKind},
		{"a wrong kind, and no key", made("t", plain("k", 0)), api.ErrKind},
		{"a wrong kind ahead of no name", made("t", key("k", 4), plain("", 1)), api.ErrKind},
		{"a wrong kind ahead of one twice", made("t", key("k", 4), key("k", 1)), api.ErrKind},
		{"a wrong kind ahead of both", made("t", key("k", 4), both("a", 1)), api.ErrKind},

		{"both", made("t", both("k", 1)), api.ErrNull},
		{"both, a text", made("t", k, both("a", 2)), api.ErrNull},
		{"both, a truth", made("t", both("a", 3), k), api.ErrNull},
		{"both, the last of MaxColumns", made("t", bigger(wide(15), 15, both("x", 1))...), api.ErrNull},
		{"both ahead of no name", made("t", both("k", 1), plain("", 1)), api.ErrNull},
		{"both ahead of one twice", made("t", both("k", 1), both("k", 1)), api.ErrNull},
		{"both ahead of a wrong kind", made("t", both("k", 1), plain("a", 0)), api.ErrNull},

		{"no key", made("t", plain("a", 1)), api.ErrNone},
		{"no key, all may be null", made("t", null("a", 1), null("b", 2), null("c", 3)), api.ErrNone},
		{"no key of MaxColumns", made("t", wide(17)[:16]...), api.ErrNone},
	}
	return out
}

// bent are tables with things drawn by chance, most of them wrong.
func bent(r *rand.Rand) api.Table {
	names := []string{"a", "b", "c", "d", "e", "f", "g", "h", "a1", "k_", "", "A", "key", "1", "aa"}
	kinds := []int{1, 2, 3, 1, 2, 3, 1, 2, 3, 1, 2, 3, 0, 4, -1}
	t := api.Table{Name: names[r.Intn(len(names))]}
	for range r.Intn(6) {
		t.Columns = append(t.Columns, api.Column{
			Name: names[r.Intn(len(names))], Kind: kinds[r.Intn(len(kinds))],
			Key: r.Intn(3) == 0, Null: r.Intn(4) == 0,
		})
	}
	return t
}

func TestTB1Reserved(t *testing.T) {
	if n := len(reserved()); n != 39 {
		t.Fatalf("%d reserved words", n)
	}
	for _, w := range reserved() {
		if !table.Reserved(w) {
			t.Errorf("%q is not reserved", w)
		}
		for _, other := range []string{
			strings.ToUpper(w), strings.ToUpper(w[:1]) + w[1:], w[:len(w)-1] + strings.ToUpper(w[len(w)-1:]),
			w + "x", "x" + w, w + "_", w + "1", w + " ", " " + w, w + "\x00", w + w, w[:len(w)-1], w[1:],
		} {
			if got, want := table.Reserved(other), slices.Contains(reserved(), other); got != want {
				t.Errorf("Reserved(%q): %v", other, got)
			}
		}
	}
	for _, s := range []string{"", " ", "a", "t", "k", "label1", "views", "having", "join", "distinct", "on", "in", "like", "drop", "create", "number", "avg", "mask", "begins", words, strings.Repeat("and", 1000)} {
		if table.Reserved(s) {
			t.Errorf("%.40q is reserved", s)
		}
	}
}

func TestTB1Name(t *testing.T) {
	for _, s := range []string{
		"a", "z", "t", "k", "ab", "a1", "a_", "z9_", "a__", "a0000", "x_y_z", "selected", "tables", "an", "orders", "label_", "int4",
		strings.Repeat("a", 31), strings.Repeat("a", 32), "z" + strings.Repeat("_", 31), "q" + strings.Repeat("9", 31),
	} {
		if !table.Name(s) {
			t.Errorf("%q is no name", s)
		}
	}
	for _, s := range []string{
		"", " ", "_", "1", "T", "1a", "_a", "Ab", "aB", "a b", " a", "a ", "a-b", "a.b", "a,b", "a\n", "\na", "a\x00", "é", "aé", "a\xff", "a\u0430", "ａ", "select", "label", "where",
		strings.Repeat("a", 33), strings.Repeat("a", 34), strings.Repeat("a", 64), strings.Repeat("a", 1<<16), strings.Repeat("_", 32), strings.Repeat("é", 16), "1" + strings.Repeat("a", 31), strings.Repeat("a", 31) + "A",
	} {
		if table.Name(s) {
			t.Errorf("%.40q is a name", s)
		}
	}
}

// Each byte, alone, ahead of, within and behind others.
func TestTB1NameEachByte(t *testing.T) {
	for c := range 256 {
		one := string([]byte{byte(c)})
		for _, s := range []string{one, one + "a", "a" + one, "a" + one + "b", "ab" + one, one + one, strings.Repeat("a", 31) + one, one + strings.Repeat("a", 31), strings.Repeat("a", 32) + one} {
			if got := table.Name(s); got != named(s) {
				t.Errorf("Name(%q): %v", s, got)
			}
		}
	}
}

// No reserved word is a name, but its fellows are, where their bytes may stand.
func TestTB1NameReserved(t *testing.T) {
	for _, w := range reserved() {
		if table.Name(w) || table.Name(strings.ToUpper(w)) || table.Name(strings.ToUpper(w[:1])+w[1:]) {
			t.Errorf("%q, or the same in great letters, is a name", w)
		}
		for _, other := range []string{w + "q", "q" + w, w + "_", w + "0"} {
			if !table.Name(other) {
				t.Errorf("%q is no name", other)
			}
		}
	}
}

func TestTB1Check(t *testing.T) {
	for s, x := range right() {
		if err := table.Check(x); err != nil {
			t.Errorf("Check of %s: %v", s, err)
		}
	}
	for n := range 17 {
		if n > 0 {
			if err := table.Check(made("t", wide(n)...)); err != nil {
				t.Errorf("Check of %d columns: %v", n, err)
			}
		}
	}
	for _, f := range faults() {
		if err := table.Check(f.table); err != f.want {
			t.Errorf("Check of %s: %v, not %v", f.what, err, f.want)
		}
		if want := checked(f.table); want != f.want {
			t.Errorf("%s: by the words %v, not %v", f.what, want, f.want)
		}
	}
}

// A table's own name is asked as that of each of its columns is.
func TestTB1CheckAsksForNames(t *testing.T) {
	for c := range 256 {
		for _, s := range []string{string([]byte{byte(c)}), string([]byte{'a', byte(c)})} {
			var want error
			if !named(s) {
				want = api.ErrName
			}
			for _, x := range []api.Table{made(s, key("k1", 1)), made("t", key(s, 1)), made("t", key("k1", 1), plain("l", 2), plain(s, 1))} {
				if s == "l" && len(x.Columns) == 3 {
					continue
				}
				if err := table.Check(x); err != want {
					t.Errorf("Check of %v: %v, not %v", x, err, want)
				}
			}
		}
	}
	for _, w := range reserved() {
		for _, x := range []api.Table{made(w, key("k1", 1)), made("t", key(w, 1)), made("t", key("k1", 1), plain(w, 1))} {
			if err := table.Check(x); err != api.ErrName {
				t.Errorf("Check of %v: %v, not ErrName", x, err)
			}
		}
	}
}

// Each two faults, each of a column of its own: the one of the column ahead is told.
func TestTB1CheckTellsTheFirstColumn(t *testing.T) {
	wrong := []struct {
		column api.Column
		want   error
	}{
		{plain("", 1), api.ErrName}, {key("text", 1), api.ErrName}, {plain("k", 1), api.ErrTwice}, {both("k", 0), api.ErrTwice},
		{plain("a", 0), api.ErrKind}, {both("b", 4), api.ErrKind}, {both("c", 1), api.ErrNull}, {both("d", 3), api.ErrNull},
	}
	for _, one := range wrong {
		for _, two := range wrong {
			for gap := range 4 {
				columns := append([]api.Column{key("k", 1), one.column}, wide(gap)...)
				columns = append(columns, two.column)
				if err := table.Check(made("t", columns...)); err != one.want {
					t.Errorf("Check of %v: %v, not %v", columns, err, one.want)
				}
			}
		}
	}
}

func TestTB1CheckByTheWords(t *testing.T) {
	r := rand.New(rand.NewSource(15))
	counts := map[error]int{}
	for range 100000 {
		x := bent(r)
		err, want := table.Check(x), checked(x)
		if err != want {
			t.Fatalf("Check of %v: %v, not %v", x, err, want)
		}
		counts[want]++
	}
	for _, err := range []error{nil, api.ErrName, api.ErrArg, api.ErrTwice, api.ErrKind, api.ErrNull, api.ErrNone} {
		if counts[err] == 0 {
			t.Errorf("%v was never asked for", err)
		}
	}
}

func TestTB2Text(t *testing.T) {
	for want, x := range right() {
		if s, err := table.Text(x); s != want || err != nil {
			t.Errorf("Text of %v: %q, %v, not %q", x, s, err, want)
		}
		if s, err := told(x); s != want || err != nil {
			t.Errorf("by the words %v: %q, %v, not %q", x, s, err, want)
		}
	}
	for _, f := range faults() {
		if s, err := table.Text(f.table); s != "" || err != f.want {
			t.Errorf("Text of %s: %q, %v, not %v", f.what, s, err, f.want)
		}
	}
	r := rand.New(rand.NewSource(2))
	for range 20000 {
		x := bent(r)
		want, wantErr := told(x)
		if s, err := table.Text(x); s != want || err != wantErr {
			t.Fatalf("Text of %v: %q, %v, not %q, %v", x, s, err, want, wantErr)
		}
	}
}

// parses holds Parse to its words.
func parses(t *testing.T, s string) {
	t.Helper()
	want, wantErr := read(s)
	got, err := table.Parse(s)
	if !same(got, want) || err != wantErr {
		t.Errorf("Parse(%.100q): %v, %v, not %v, %v", s, got, err, want, wantErr)
	}
}

func TestTB2Parse(t *testing.T) {
	for s, want := range right() {
		if got, err := table.Parse(s); !same(got, want) || err != nil {
			t.Errorf("Parse(%q): %v, %v, not %v", s, got, err, want)
		}
		parses(t, s)
	}
}

func TestTB2ParseRefuses(t *testing.T) {
	full, _ := told(made("t", wide(16)...))
	many := strings.TrimSuffix(full, ")")
	for _, s := range []string{
		"", " ", "T", "TABLE", "TABLE ", "TABLE t", "TABLE t ", "TABLE t (", "TABLE t ()", "TABLE t )", "TABLE (k INT KEY)", "TABLE  (k INT KEY)", "t (k INT KEY)", "(k INT KEY)", "k INT KEY", ")", "()", ", ", ",",
		"TABLE t(k INT KEY)", "TABLE t  (k INT KEY)", "TABLE  t (k INT KEY)", " TABLE t (k INT KEY)", "TABLE t ( k INT KEY)", "TABLE t (k INT KEY )", "TABLE t (k  INT KEY)", "TABLE t (k INT  KEY)", "TABLE t (k INT KEY) ", "TABLE t (k INT KEY)\n", "TABLE t (k INT KEY);", "TABLE t (k INT KEY))", "TABLE t ((k INT KEY)", "TABLE t ((k INT KEY))", "TABLE t (k INT KEY", "TABLE t k INT KEY)", "TABLEt (k INT KEY)", "TABLE TABLE t (k INT KEY)",
		"TABLE\tt (k INT KEY)", "TABLE t\t(k INT KEY)", "TABLE t (k\tINT KEY)", "TABLE t (k INT\tKEY)", "TABLE t\n(k INT KEY)", "TABLE t\u00a0(k INT KEY)", "\ufeffTABLE t (k INT KEY)", "TABLE t (k INT KEY)\x00", "TABLE t (k\x00 INT KEY)", "TABLE t (k INT KEY)TABLE t (k INT KEY)", "TABLE t (k INT KEY) TABLE u (k INT KEY)",
		"table t (k int key)", "table t (k INT KEY)", "Table t (k INT KEY)", "TABLE T (k INT KEY)", "TABLE t (K INT KEY)", "TABLE t (k int KEY)", "TABLE t (k Int KEY)", "TABLE t (k INT key)", "TABLE t (k INT Key)", "TABLE t (k INT KEY, s TEXT null)", "TABLE t (k INT KEY, s text NULL)",
		"TABLE t (k INT)", "TABLE t (k INT NULL)", "TABLE t (k NULL KEY)", "TABLE t (k NULL)", "TABLE t (k INT KEY, a NULL NULL)", "TABLE t (k INT KEY, a NULL)", "TABLE t (k KEY)", "TABLE t (k  KEY)", "TABLE t (k INTEGER KEY)", "TABLE t (k IN KEY)", "TABLE t (k INTS KEY)", "TABLE t (k TEXTKEY)", "TABLE t (k INTKEY)", "TABLE t (k BOOLEAN KEY)", "TABLE t (k 1 KEY)", "TABLE t (k)", "TABLE t (INT KEY)", "TABLE t ( INT KEY)", "TABLE t (INT k KEY)", "TABLE t (k KEY INT)", "TABLE t (k INT KEYS)", "TABLE t (k INT KEY KEY)", "TABLE t (k INT NULL KEY)", "TABLE t (k INT KEY NULL)", "TABLE t (k INT KEY, s TEXT NULL NULL)", "TABLE t (k INT KEY, s TEXT NULL KEY)", "TABLE t (k INT KEY, s TEXT KEY NULL)", "TABLE t (k INT KEY, s TEXT NOT NULL)", "TABLE t (k INT KEY, s TEXT )",
		"TABLE t (k INT KEY,s TEXT)", "TABLE t (k INT KEY ,s TEXT)", "TABLE t (k INT KEY , s TEXT)", "TABLE t (k INT KEY,  s TEXT)", "TABLE t (k INT KEY s TEXT)", "TABLE t (k INT KEY; s TEXT)", "TABLE t (, k INT KEY)", "TABLE t (k INT KEY, )", "TABLE t (k INT KEY,)", "TABLE t (k INT KEY, , s TEXT)", "TABLE t (k INT KEY), (s TEXT)", "TABLE t (k INT KEY) (s TEXT)", "TABLE t (k INT KEY (s TEXT)",
		"TABLE t (k INT KEY, k INT KEY)", "TABLE t (k INT KEY, k TEXT)", "TABLE t (k INT KEY, a INT, k TEXT)", "TABLE t (a INT, k INT KEY, a INT)",
		"TABLE select (k INT KEY)", "TABLE table (k INT KEY)", "TABLE t (key INT KEY)", "TABLE t (label INT KEY)", "TABLE t (k INT KEY, text TEXT)", "TABLE 1 (k INT KEY)", "TABLE t u (k INT KEY)", "TABLE t (1 INT KEY)", "TABLE _ (k INT KEY)", "TABLE t (_ INT KEY)", "TABLE é (k INT KEY)", "TABLE t, u (k INT KEY)", "TABLE 't' (k INT KEY)", "TABLE \"t\" (k INT KEY)",
		"TABLE " + strings.Repeat("a", 33) + " (k INT KEY)", "TABLE t (" + strings.Repeat("a", 33) + " INT KEY)",
		many + ", x INT)", many + ", x INT KEY, y TEXT)", many + ", c3 INT)", many + ", )", many + strings.Repeat(", x INT", 1000) + ")",
		strings.Repeat("TABLE ", 1000), strings.Repeat(" (", 1000), strings.Repeat(", ", 1<<16), "TABLE t (" + strings.Repeat(", ", 1<<16) + ")", strings.Repeat(")", 1000), "TABLE t (k INT KEY" + strings.Repeat(")", 1000), strings.Repeat(" ", 1<<16), strings.Repeat("a", 1<<16),
	} {
		if got, err := table.Parse(s); !same(got, api.Table{}) || err != api.ErrForm {
			t.Errorf("Parse(%.100q): %v, %v, not ErrForm", s, got, err)
		}
		parses(t, s)
	}
}

// What Text tells, cut anywhere, from behind and from ahead, is the Text of no table; so is it gone on.
func TestTB2ParseCut(t *testing.T) {
	for s := range right() {
		for i := range len(s) {
			for _, part := range []string{s[:i], s[i+1:]} {
				if got, err := table.Parse(part); !same(got, api.Table{}) || err != api.ErrForm {
					t.Errorf("Parse(%q): %v, %v, not ErrForm", part, got, err)
				}
			}
		}
		for c := range 256 {
			one := string([]byte{byte(c)})
			for _, more := range []string{s + one, one + s} {
				if got, err := table.Parse(more); !same(got, api.Table{}) || err != api.ErrForm {
					t.Errorf("Parse(%q): %v, %v, not ErrForm", more, got, err)
				}
			}
		}
	}
}

// Each byte put in, written over and left out, anywhere.
func TestTB2ParseEachByte(t *testing.T) {
	for s := range right() {
		if len(s) > 60 {
			continue
		}
		for i := range len(s) + 1 {
			for c := range 256 {
				one := string([]byte{byte(c)})
				parses(t, s[:i]+one+s[i:])
				if i < len(s) {
					parses(t, s[:i]+one+s[i+1:])
				}
			}
			if i < len(s) {
				parses(t, s[:i]+s[i+1:])
			}
		}
	}
}

// Words put together in every way: few of them are the Text of a table.
func TestTB2ParseWords(t *testing.T) {
	parts := []string{"k", "a", " INT", " TEXT", " KEY", " NULL", ", ", ")", " "}
	list, good := []string{"TABLE t ("}, 0
	for range 6 {
		var next []string
		for _, s := range list {
			for _, p := range parts {
				parses(t, s+p+")")
				if _, err := table.Parse(s + p + ")"); err == nil {
					good++
				}
				next = append(next, s+p)
			}
		}
		// What has a byte too many stays wrong, so that it need not be gone on with.
		list = slices.DeleteFunc(next, func(s string) bool { return strings.Contains(s, "  ") || strings.Contains(s, "))") })
		if len(list) > 20000 {
			list = list[:20000]
		}
	}
	if good < 10 {
		t.Errorf("%d of them were read", good)
	}
}

func TestTB2Column(t *testing.T) {
	x := made("t", key("k", 1), null("s", 2), plain("s1", 3), plain("z", 1))
	for i, c := range x.Columns {
		if n, err := table.Column(x, c.Name); n != i || err != nil {
			t.Errorf("Column(%q): %d, %v, not %d", c.Name, n, err, i)
		}
	}
	for _, name := range []string{"", "t", "K", "S", "s2", "s11", "ks", "k ", " k", "z\x00", "label", "*", "0", strings.Repeat("k", 1000)} {
		if n, err := table.Column(x, name); n != 0 || err != api.ErrName {
			t.Errorf("Column(%q): %d, %v, not ErrName", name, n, err)
		}
	}
	full := made("t", wide(16)...)
	for i := range 16 {
		if n, err := table.Column(full, fmt.Sprintf("c%d", i)); n != i || err != nil {
			t.Errorf("Column %d of MaxColumns: %d, %v", i, n, err)
		}
	}
}

// Column takes a table as it is: also one that may not be, with names that are none or stand twice.
func TestTB2ColumnOfAnyTable(t *testing.T) {
	x := made("", plain("a", 9), plain("", 1), plain("b", 0), both("a", 1), plain("", 2), plain("b", 1), plain("select", 1), plain("X y", 1))
	for name, want := range map[string]int{"a": 0, "": 1, "b": 2, "select": 6, "X y": 7} {
		if n, err := table.Column(x, name); n != want || err != nil {
			t.Errorf("Column(%q): %d, %v, not %d", name, n, err, want)
		}
	}
	for _, none := range []api.Table{{}, made("t"), {Name: "t", Columns: []api.Column{}}} {
		for _, name := range []string{"", "t", "k"} {
			if n, err := table.Column(none, name); n != 0 || err != api.ErrName {
				t.Errorf("Column(%q) of no columns: %d, %v, not ErrName", name, n, err)
			}
		}
	}
	many := made("t", wide(1000)...)
	if n, err := table.Column(many, "c999"); n != 999 || err != nil {
		t.Errorf("Column of the last of many: %d, %v", n, err)
	}
}

// some are n tables, each with a name and columns of its own.
func some(n int) []api.Table {
	var out []api.Table
	for i := range n {
		out = append(out, made(fmt.Sprintf("t%d", i), wide(1+i%16)...))
	}
	return out
}

// deep is a list of tables of which nothing is shared.
func deep(l []api.Table) []api.Table {
	var out []api.Table
	for _, x := range l {
		out = append(out, api.Table{Name: x.Name, Columns: slices.Clone(x.Columns)})
	}
	return out
}

// noPlaces are numbers that are no place in a list of n.
func noPlaces(n int) []int {
	return []int{-1, -2, -n - 1, n, n + 1, n + 1000, math.MinInt, math.MaxInt, math.MinInt + n, 1 << 32, -1 << 32}
}

// holds tells where a catalog has not just these tables, in this order.
func holds(t *testing.T, c *table.Catalog, l []api.Table) {
	t.Helper()
	if n := c.Len(); n != len(l) {
		t.Errorf("Len: %d, not %d", n, len(l))
	}
	for i, want := range l {
		if got, err := c.Table(i); !same(got, want) || err != nil {
			t.Errorf("Table(%d): %v, %v, not %v", i, got, err, want)
		}
		if n, err := c.Find(want.Name); n != i || err != nil {
			t.Errorf("Find(%q): %d, %v, not %d", want.Name, n, err, i)
		}
	}
	for _, i := range noPlaces(len(l)) {
		if got, err := c.Table(i); !same(got, api.Table{}) || err != api.ErrArg {
			t.Errorf("Table(%d) of %d: %v, %v, not ErrArg", i, len(l), got, err)
		}
	}
	for _, name := range []string{"", "none", "T0", "t", "t00", "t32", "t-1", " t0", "t0 ", "c0", "select", strings.Repeat("t", 1000)} {
		if n, err := c.Find(name); n != 0 || err != api.ErrName {
			t.Errorf("Find(%.40q) of %d: %d, %v, not ErrName", name, len(l), n, err)
		}
	}
}

func catalog(t *testing.T, l []api.Table) *table.Catalog {
	t.Helper()
	c, err := table.New(l)
	if c == nil || err != nil {
		t.Fatalf("New of %d tables: %v, %v", len(l), c, err)
	}
	return c
}

func TestTB3New(t *testing.T) {
	holds(t, catalog(t, nil), nil)
	holds(t, catalog(t, []api.Table{}), nil)
	for n := range api.MaxTables + 1 {
		holds(t, catalog(t, some(n)), some(n))
		turned := some(n)
		slices.Reverse(turned)
		holds(t, catalog(t, turned), turned)
	}
	for _, x := range right() {
		if n, err := catalog(t, []api.Table{x}).Find(x.Name); n != 0 || err != nil {
			t.Errorf("Find(%q) of it alone: %d, %v", x.Name, n, err)
		}
	}
	// The same columns under other names are other tables.
	l := []api.Table{made("a", key("k", 1)), made("b", key("k", 1)), made("a_", key("k", 1))}
	holds(t, catalog(t, l), l)
}

func TestTB3NewRefuses(t *testing.T) {
	full := some(32)
	bad, none, twice := made("T", key("k", 1)), made("x"), made("y", key("k", 1), key("k", 1))
	with := func(l []api.Table, at int, x api.Table) []api.Table { return slices.Insert(deep(l), at, x) }
	for _, c := range []struct {
		what string
		l    []api.Table
		want error
	}{
		{"one more than MaxTables", some(33), api.ErrLong},
		{"many more", some(1000), api.ErrLong},
		{"too many, the first may not be", with(full, 0, bad), api.ErrLong},
		{"too many, the last may not be", with(full, 32, none), api.ErrLong},
		{"too many, one there twice", with(full, 5, full[4]), api.ErrLong},
		{"too many, all the same", slices.Repeat(full[:1], 33), api.ErrLong},
		{"too many, all zero", make([]api.Table, 33), api.ErrLong},
		{"zero alone", make([]api.Table, 1), api.ErrName},
		{"the first may not be", with(full[:5], 0, none), api.ErrArg},
		{"one in the middle may not be", with(full[:5], 2, twice), api.ErrTwice},
		{"the last of MaxTables may not be", with(full[:31], 31, made("x", wide(17)...)), api.ErrLong},
		{"the first of two that may not be", []api.Table{none, bad}, api.ErrArg},
		{"the first of two that may not be, turned", []api.Table{bad, none}, api.ErrName},
		{"the first of two apart", []api.Table{full[0], made("x", plain("a", 1)), full[1], bad}, api.ErrNone},
		{"the first of many", []api.Table{made("x", both("a", 1)), twice, none, bad}, api.ErrNull},
		{"there twice ahead of one that may not be", []api.Table{full[0], full[0], none}, api.ErrArg},
		{"there twice behind one that may not be", []api.Table{made("x", key("k", 0)), full[0], full[0]}, api.ErrKind},
		{"there twice, one of them may not be", []api.Table{full[0], made("t0", plain("a", 1))}, api.ErrNone},
		{"beside each other", []api.Table{full[0], full[0]}, api.ErrTwice},
		{"apart", []api.Table{full[0], full[1], full[2], full[0]}, api.ErrTwice},
		{"neither the first", []api.Table{full[0], full[1], full[2], full[1], full[3]}, api.ErrTwice},
		{"the same name, other columns", []api.Table{made("a", key("k", 1)), made("b", key("k", 1)), made("a", key("l", 2))}, api.ErrTwice},
		{"the first and the last of MaxTables", with(full[:31], 31, full[0]), api.ErrTwice},
		{"the last two of MaxTables", with(full[:31], 31, full[30]), api.ErrTwice},
		{"all the same", slices.Repeat(full[3:4], 32), api.ErrTwice},
	} {
		if x, err := table.New(c.l); x != nil || err != c.want {
			t.Errorf("New of %s: %v, %v, not %v", c.what, x, err, c.want)
		}
	}
	for _, f := range faults() {
		for _, l := range [][]api.Table{{f.table}, {full[0], f.table}, {f.table, full[0]}, {full[0], full[0], f.table}, with(full[:31], 17, f.table)} {
			if x, err := table.New(l); x != nil || err != f.want {
				t.Errorf("New of %d tables, one with %s: %v, %v, not %v", len(l), f.what, x, err, f.want)
			}
		}
	}
}

// What New was given is not changed and not kept: neither the list, nor its tables' columns, nor their spare room.
func TestTB3NewLeavesItsArgument(t *testing.T) {
	given, room := some(32), some(32)
	for i := range room {
		room[i].Columns = append(room[i].Columns, plain("spare", 1))
		given[i].Columns = room[i].Columns[:len(room[i].Columns)-1]
	}
	kept, keptRoom := deep(given[:20]), deep(room)
	c := catalog(t, given[:20])
	for i := range room {
		if !same(room[i], keptRoom[i]) {
			t.Errorf("New has changed %v to %v", keptRoom[i], room[i])
		}
	}
	for i := range given {
		for j := range room[i].Columns {
			room[i].Columns[j] = both("written", 9)
		}
		given[i] = made("written")
	}
	holds(t, c, kept)
}

// spoil writes over a table, its spare room too.
func spoil(x *api.Table) {
	for j := range x.Columns[:cap(x.Columns)] {
		x.Columns[:cap(x.Columns)][j] = both("written", 9)
	}
	x.Name, x.Columns = "written", nil
}

// A table that was handed out and written over leaves the catalog, and what was handed out else, as it was.
func TestTB3AnswersAreNew(t *testing.T) {
	l := some(32)
	c := catalog(t, l)
	var others []api.Table
	for i := range l {
		one, _ := c.Table(i)
		two, _ := c.Table(i)
		grown := append(two.Columns, plain("grown", 1))
		spoil(&one)
		others = append(others, two)
		if !slices.Equal(grown[:len(grown)-1], l[i].Columns) {
			t.Errorf("behind a change of another answer: %v", grown)
		}
	}
	for i := range l {
		if !same(others[i], l[i]) {
			t.Errorf("behind a change of another answer: %v, not %v", others[i], l[i])
		}
	}
	holds(t, c, l)
	if _, err := c.Find("written"); err != api.ErrName {
		t.Errorf("Find of a name that was written into an answer: %v", err)
	}
}

// Two catalogs of one list have nothing to do with each other.
func TestTB3CatalogsAreApart(t *testing.T) {
	l := some(4)
	one, two := catalog(t, l), catalog(t, l[1:])
	holds(t, one, some(4))
	holds(t, two, some(4)[1:])
	x, _ := one.Table(1)
	spoil(&x)
	holds(t, two, some(4)[1:])
}

func TestTB3Nil(t *testing.T) {
	var c *table.Catalog
	holds(t, c, nil)
	for _, i := range []int{0, 1, 31} {
		if x, err := c.Table(i); !same(x, api.Table{}) || err != api.ErrArg {
			t.Errorf("Table(%d): %v, %v, not ErrArg", i, x, err)
		}
	}
	for _, x := range some(3) {
		if n, err := c.Find(x.Name); n != 0 || err != api.ErrName {
			t.Errorf("Find(%q): %d, %v, not ErrName", x.Name, n, err)
		}
	}
}

// back holds a table that may be to TB4.
func back(t *testing.T, x api.Table) {
	t.Helper()
	s, err := table.Text(x)
	if err != nil {
		t.Fatalf("Text of %v: %v", x, err)
	}
	if got, err := table.Parse(s); !reflect.DeepEqual(got, x) || err != nil {
		t.Errorf("Parse(%q): %v, %v, not %v", s, got, err, x)
	}
}

func TestTB4ParseOfText(t *testing.T) {
	for _, x := range right() {
		back(t, x)
	}
	for n := 1; n <= 16; n++ {
		back(t, made("t", wide(n)...))
	}
	// Each two columns of each kind, of the key, null and neither.
	form := func(name string, n int) api.Column {
		return api.Column{Name: name, Kind: 1 + n%3, Key: n/3 == 1, Null: n/3 == 2}
	}
	for i := range 9 {
		for j := range 9 {
			back(t, made("t", form("a", i), form("b", j), key("k", 1)))
			back(t, made("t", key("k", 2), form("a", i), form("b", j)))
		}
	}
	r := rand.New(rand.NewSource(4))
	good := 0
	for range 50000 {
		if x := bent(r); checked(x) == nil {
			good++
			back(t, x)
		}
	}
	if good < 1000 {
		t.Errorf("%d tables were right", good)
	}
}

// The widest table of the longest names is told and read too.
func TestTB4Widest(t *testing.T) {
	var columns []api.Column
	for i := range 16 {
		columns = append(columns, null(fmt.Sprintf("%s%02d", strings.Repeat("a", 30), i), 2))
	}
	columns[7].Key, columns[7].Null = true, false
	x := made(strings.Repeat("z", 32), columns...)
	back(t, x)
	s, _ := table.Text(x)
	// One sign more, wherever a name, a kind or a mark ends, and it is the Text of no table.
	for i := range len(s) + 1 {
		parses(t, s[:i]+"a"+s[i:])
		parses(t, s[:i]+" "+s[i:])
	}
}

// Two tables that are not the same have not the same Text.
func TestTB4TextsDiffer(t *testing.T) {
	r := rand.New(rand.NewSource(44))
	seen := map[string]api.Table{}
	for range 50000 {
		x := bent(r)
		s, err := table.Text(x)
		if err != nil {
			continue
		}
		if other, known := seen[s]; known && !same(other, x) {
			t.Errorf("%v and %v are both told as %q", x, other, s)
		}
		seen[s] = x
	}
}

// No call changes what it is given, and each tells the same each time, and beside an error nothing; also where many ask at the same time.
func TestP7Alone(t *testing.T) {
	l := some(32)
	for _, f := range faults() {
		l = append(l, f.table)
	}
	kept := deep(l)
	c := catalog(t, l[:32])
	var all sync.WaitGroup
	for range 8 {
		all.Go(func() {
			for i, x := range l {
				if err := table.Check(x); err != checked(x) {
					t.Errorf("Check of %v: %v", x, err)
				}
				want, wantErr := told(x)
				if s, err := table.Text(x); s != want || err != wantErr {
					t.Errorf("Text of %v: %q, %v, not %q, %v", x, s, err, want, wantErr)
				}
				if i < 32 {
					got, err := c.Table(i)
					if !same(got, x) || err != nil {
						t.Errorf("Table(%d): %v, %v", i, got, err)
					}
					spoil(&got)
				}
				if got, err := table.Parse(want); (err == nil) != (wantErr == nil) {
					t.Errorf("Parse(%q): %v, %v", want, got, err)
				}
			}
		})
	}
	all.Wait()
	for i := range l {
		if !same(l[i], kept[i]) {
			t.Errorf("%v was changed to %v", kept[i], l[i])
		}
	}
}

// What Parse answers is new each time.
func TestP7ParseIsNew(t *testing.T) {
	for s, want := range right() {
		one, _ := table.Parse(s)
		two, _ := table.Parse(s)
		spoil(&one)
		three, err := table.Parse(s)
		if !same(two, want) || !same(three, want) || err != nil {
			t.Errorf("Parse(%q) behind a change of another answer: %v, %v, %v", s, two, three, err)
		}
	}
}

func FuzzParse(f *testing.F) {
	for s := range right() {
		f.Add(s)
	}
	f.Add("TABLE t (k INT KEY, k TEXT)")
	f.Add("TABLE t (k INT NULL KEY)")
	f.Fuzz(func(t *testing.T, s string) {
		if got := table.Name(s); got != named(s) {
			t.Fatalf("Name(%q): %v", s, got)
		}
		want, wantErr := read(s)
		got, err := table.Parse(s)
		if !same(got, want) || err != wantErr {
			t.Fatalf("Parse(%q): %v, %v, not %v, %v", s, got, err, want, wantErr)
		}
		if err == nil {
			if again, err := table.Text(got); again != s || err != nil {
				t.Fatalf("%q is read as %v, and told as %q, %v", s, got, again, err)
			}
		}
	})
}
