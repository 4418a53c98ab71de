package fragment_test

import (
	"fmt"
	"math"
	"slices"
	"strings"
	"testing"

	"barbican/api"
	"barbican/cursor"
	"barbican/fragment"
	"barbican/label"
	"barbican/lattice"
	"barbican/row"
	"barbican/table"
)

// Values in short.
func null() api.Value                 { return api.Value{} }
func num(n int) api.Value             { return api.Value{Kind: api.KindInt, Int: n} }
func text(s string) api.Value         { return api.Value{Kind: api.KindText, Text: s} }
func truth(b bool) api.Value          { return api.Value{Kind: api.KindBool, Bool: b} }
func list(l ...api.Value) []api.Value { return l }

// Writes in short.
func put(name string, l ...api.Value) api.Write  { return api.Write{Table: name, Row: l} }
func gone(name string, l ...api.Value) api.Write { return api.Write{Table: name, Gone: true, Row: l} }

// Writes of the table t.
func putT(k int, s string) api.Write { return put("t", num(k), text(s)) }
func goneT(k int) api.Write          { return gone("t", num(k)) }

// keyT is a key of the table t.
func keyT(k int) string { return key("t", num(k)) }

// someTables are with a key of one column and of two, with other columns between them, and with nothing but a key.
func someTables() []api.Table {
	return []api.Table{
		{Name: "t", Columns: []api.Column{{Name: "k", Kind: api.KindInt, Key: true}, {Name: "s", Kind: api.KindText, Null: true}}},
		{Name: "pair", Columns: []api.Column{{Name: "a", Kind: api.KindText, Key: true}, {Name: "b", Kind: api.KindBool}, {Name: "c", Kind: api.KindInt, Key: true}}},
		{Name: "yes", Columns: []api.Column{{Name: "x", Kind: api.KindBool, Key: true}}},
	}
}

// tableOf is one of them.
func tableOf(name string) api.Table {
	l := someTables()
	return l[slices.IndexFunc(l, func(t api.Table) bool { return t.Name == name })]
}

// key is a key of one of them.
func key(name string, l ...api.Value) string {
	out, err := row.KeyOf(tableOf(name), l)
	if err != nil {
		panic(err)
	}
	return out
}

// laid is a version: of a fragment's key, by a commit, a row, or that it is gone.
type laid struct {
	label  int
	table  string
	key    string
	at     int
	values []api.Value
	gone   bool
}

// told is what the chapter's words tell of a store: the versions of all keys, as they came.
type told struct {
	labels  []api.Label
	tables  []api.Table
	commits []int
	all     []laid
}

// named is the table of a name.
func (m *told) named(name string) (api.Table, bool) {
	for _, t := range m.tables {
		if t.Name == name {
			return t, true
		}
	}
	return api.Table{}, false
}

// isLabel tells whether there is such a label.
func (m *told) isLabel(i int) bool { return i >= 0 && i < len(m.labels) }

// check is Check by the words.
func (m *told) check(w api.Write) error {
	t, is := m.named(w.Table)
	if !is {
		return api.ErrName
	}
	if w.Gone {
		_, err := row.KeyOf(t, w.Row)
		return err
	}
	_, err := row.Key(t, w.Row)
	return err
}

// apply is Apply by the words.
func (m *told) apply(at int, l []api.Write) error {
	if !m.isLabel(at) {
		return api.ErrArg
	}
	for _, w := range l {
		if err := m.check(w); err != nil {
			return err
		}
	}
	m.commits[at]++
	for _, w := range l {
		t, _ := m.named(w.Table)
		v := laid{label: at, table: w.Table, at: m.commits[at], gone: w.Gone}
		if w.Gone {
			v.key, _ = row.KeyOf(t, w.Row)
		} else {
			v.key, _ = row.Key(t, w.Row)
			v.values = slices.Clone(w.Row)
		}
		m.all = slices.DeleteFunc(m.all, func(x laid) bool { return same(x, v) && x.at == v.at })
		m.all = append(m.all, v)
	}
	return nil
}

// same tells whether two versions are of one key of one fragment.
func same(a, b laid) bool { return a.label == b.label && a.table == b.table && a.key == b.key }

// as is the version that the key of a version has as of a commit.
func (m *told) as(of laid, at int) (laid, bool) {
	var best laid
	there := false
	for _, v := range m.all {
		if same(v, of) && v.at <= at && (!there || v.at > best.at) {
			best, there = v, true
		}
	}
	return best, there
}

// asked are the errors of View, Own and Changed by the words.
func (m *told) asked(at int, snap []int, name string) error {
	if !m.isLabel(at) || len(snap) != len(m.labels) {
		return api.ErrArg
	}
	for _, n := range snap {
		if n < 0 {
			return api.ErrArg
		}
	}
	if _, is := m.named(name); !is {
		return api.ErrName
	}
	return nil
}

// keys are those of a table that have a version anywhere, in order.
func (m *told) keys(name string) []string {
	var out []string
	for _, v := range m.all {
		if v.table == name {
			out = append(out, v.key)
		}
	}
	slices.Sort(out)
	return slices.Compact(out)
}

// view is View by the words: key by key, and place by place.
func (m *told) view(at int, snap []int, name string, r cursor.Range) ([]api.Row, error) {
	if err := m.asked(at, snap, name); err != nil {
		return nil, err
	}
	var out []api.Row
	for _, k := range m.keys(name) {
		for i, l := range m.labels {
			if !cursor.Has(r, k) || !label.Dominates(m.labels[at], l) {
				continue
			}
			if v, there := m.as(laid{label: i, table: name, key: k}, snap[i]); there && !v.gone {
				out = append(out, api.Row{At: i, Values: v.values})
			}
		}
	}
	return out, nil
}

// own is Own by the words.
func (m *told) own(at int, snap []int, name, k string) ([]api.Value, bool, error) {
	if err := m.asked(at, snap, name); err != nil {
		return nil, false, err
	}
	v, there := m.as(laid{label: at, table: name, key: k}, snap[at])
	if !there || v.gone {
		return nil, false, nil
	}
	return v.values, true, nil
}

// changed is Changed by the words.
func (m *told) changed(at int, snap []int, name string, r cursor.Range) (bool, error) {
	if err := m.asked(at, snap, name); err != nil {
		return false, err
	}
	return slices.ContainsFunc(m.all, func(v laid) bool {
		return v.table == name && label.Dominates(m.labels[at], m.labels[v.label]) && cursor.Has(r, v.key) && v.at > snap[v.label]
	}), nil
}

// rows is Rows by the words.
func (m *told) rows(at int) int {
	if !m.isLabel(at) {
		return 0
	}
	n := 0
	for _, t := range m.tables {
		for _, k := range m.keys(t.Name) {
			if v, there := m.as(laid{label: at, table: t.Name, key: k}, m.commits[at]); there && !v.gone {
				n++
			}
		}
	}
	return n
}

// prune is Prune by the words, of version.Prune too.
func (m *told) prune(snap []int) int {
	if len(snap) != len(m.labels) {
		return 0
	}
	var left []laid
	for _, v := range m.all {
		as, there := m.as(v, snap[v.label])
		last, _ := m.as(v, math.MaxInt)
		if there && (v.at < as.at || v.at == as.at && as.gone && as.at == last.at) {
			continue
		}
		left = append(left, v)
	}
	went := len(m.all) - len(left)
	m.all = left
	return went
}

// copied is the same, apart.
func (m *told) copied() *told {
	return &told{m.labels, m.tables, slices.Clone(m.commits), slices.Clone(m.all)}
}

// latticeOf is the lattice of labels' texts.
func latticeOf(t testing.TB, texts string) *lattice.Lattice {
	t.Helper()
	x, err := lattice.Parse(texts)
	if err != nil {
		t.Fatal(err)
	}
	return x
}

// catalogOf is a catalog of tables.
func catalogOf(t testing.TB, l ...api.Table) *table.Catalog {
	t.Helper()
	c, err := table.New(l)
	if err != nil {
		t.Fatal(err)
	}
	return c
}

// made is a store of labels with someTables, and what the words tell of it.
func made(t testing.TB, texts string) (*fragment.Store, *told) {
	t.Helper()
	x := latticeOf(t, texts)
	s, err := fragment.New(x, catalogOf(t, someTables()...))
	if err != nil {
		t.Fatal(err)
	}
	m := &told{tables: someTables(), commits: make([]int, x.Len())}
	for i := range x.Len() {
		l, err := x.Label(i)
		if err != nil {
			t.Fatal(err)
		}
		m.labels = append(m.labels, l)
	}
	return s, m
}

// both applies the same to a store and by the words, and holds what they answer against one another.
func both(t testing.TB, s *fragment.Store, m *told, at int, l ...api.Write) {
	t.Helper()
	got, want := s.Apply(at, l), m.apply(at, l)
	if got != want {
		t.Fatalf("Apply(%d, %v): %v, not %v", at, l, got, want)
	}
}

// prunes holds Prune.
func prunes(t testing.TB, s *fragment.Store, m *told, snap []int, how string) {
	t.Helper()
	if got, want := s.Prune(snap), m.prune(snap); got != want {
		t.Fatalf("%s: Prune(%v): %d, not %d", how, snap, got, want)
	}
}

// line tells rows: of each the label's place and the values.
func line(l []api.Row) string {
	var out []string
	for _, x := range l {
		s, err := row.Text(x.Values)
		if err != nil {
			s = err.Error()
		}
		out = append(out, fmt.Sprintf("%d(%s)", x.At, s))
	}
	return strings.Join(out, " ")
}

// someKeys are keys of a table that some of the tests' rows have, and texts that none has.
func someKeys(name string) []string {
	out := []string{"", "\x00", "\x02", "\xff"}
	switch name {
	case "t":
		for k := -1; k <= 4; k++ {
			out = append(out, keyT(k))
		}
	case "pair":
		for _, s := range []string{"", "a", "b"} {
			out = append(out, key("pair", text(s), num(0)), key("pair", text(s), num(1)))
		}
	case "yes":
		out = append(out, key("yes", truth(false)), key("yes", truth(true)))
	}
	return out
}

// someRanges are ranges of a table's keys: all, some and none, with ends of all kinds.
func someRanges(name string) []cursor.Range {
	keys := someKeys(name)
	low, mid, high := keys[len(keys)-2], keys[len(keys)/2+1], keys[len(keys)-1]
	return []cursor.Range{
		{},
		{From: high, To: low, OpenFrom: true, OpenTo: true},
		cursor.One(low), cursor.One(high), cursor.One("x"),
		cursor.Prefix("\x02"), cursor.Prefix("\x03a"),
		{From: mid, HasFrom: true}, {From: mid, HasFrom: true, OpenFrom: true},
		{To: mid, HasTo: true}, {To: mid, HasTo: true, OpenTo: true},
		{From: low, To: high, HasFrom: true, HasTo: true, OpenFrom: true},
		{From: high, To: low, HasFrom: true, HasTo: true},
		{From: mid, To: mid, HasFrom: true, HasTo: true, OpenTo: true},
	}
}

// snaps are snapshots of n labels: all of one number from 0 to a little above last, each label alone at another number, and beyond all commits.
func snaps(n, last int) [][]int {
	out := [][]int{slices.Repeat([]int{math.MaxInt}, n)}
	for at := 0; at <= last+1; at++ {
		out = append(out, slices.Repeat([]int{at}, n))
	}
	for i := range n {
		for _, at := range []int{0, 1, last} {
			snap := slices.Repeat([]int{last / 2}, n)
			snap[i] = at
			out = append(out, snap)
		}
	}
	return out
}

// views holds View and Changed of one range.
func views(t testing.TB, s *fragment.Store, m *told, at int, snap []int, name string, r cursor.Range, how string) {
	t.Helper()
	got, gotErr := s.View(at, snap, name, r)
	want, wantErr := m.view(at, snap, name, r)
	if line(got) != line(want) || gotErr != wantErr {
		t.Fatalf("%s: View(%d, %v, %q, %s): %s, %v, not %s, %v", how, at, snap, name, cursor.Text(r), line(got), gotErr, line(want), wantErr)
	}
	gotIs, gotErr := s.Changed(at, snap, name, r)
	wantIs, wantErr := m.changed(at, snap, name, r)
	if gotIs != wantIs || gotErr != wantErr {
		t.Fatalf("%s: Changed(%d, %v, %q, %s): %v, %v, not %v, %v", how, at, snap, name, cursor.Text(r), gotIs, gotErr, wantIs, wantErr)
	}
}

// owns holds Own of one key.
func owns(t testing.TB, s *fragment.Store, m *told, at int, snap []int, name, k string, how string) {
	t.Helper()
	got, gotIs, gotErr := s.Own(at, snap, name, k)
	want, wantIs, wantErr := m.own(at, snap, name, k)
	if !slices.Equal(got, want) || gotIs != wantIs || gotErr != wantErr {
		t.Fatalf("%s: Own(%d, %v, %q, %q): %v, %v, %v, not %v, %v, %v", how, at, snap, name, k, got, gotIs, gotErr, want, wantIs, wantErr)
	}
}

// counts holds Commits, Now and Rows.
func counts(t testing.TB, s *fragment.Store, m *told, how string) {
	t.Helper()
	if got := s.Now(); !slices.Equal(got, m.commits) {
		t.Fatalf("%s: Now: %v, not %v", how, got, m.commits)
	}
	for at := -1; at <= len(m.labels); at++ {
		want := 0
		if m.isLabel(at) {
			want = m.commits[at]
		}
		if got := s.Commits(at); got != want {
			t.Fatalf("%s: Commits(%d): %d, not %d", how, at, got, want)
		}
		if got, want := s.Rows(at), m.rows(at); got != want {
			t.Fatalf("%s: Rows(%d): %d, not %d", how, at, got, want)
		}
	}
}

// holds asks a store for all that it tells with some snapshots.
func holds(t testing.TB, s *fragment.Store, m *told, l [][]int, how string) {
	t.Helper()
	counts(t, s, m, how)
	for _, snap := range l {
		for at := range m.labels {
			for _, x := range m.tables {
				for _, r := range someRanges(x.Name) {
					views(t, s, m, at, snap, x.Name, r, how)
				}
				for _, k := range someKeys(x.Name) {
					owns(t, s, m, at, snap, x.Name, k, how)
				}
			}
		}
	}
}

// whole asks with snapshots of all kinds.
func whole(t testing.TB, s *fragment.Store, m *told, how string) {
	t.Helper()
	holds(t, s, m, snaps(len(m.labels), slices.Max(m.commits)), how)
}
