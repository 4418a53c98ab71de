package fragment

import (
	"cmp"
	"strings"

	"barbican/api"
	"barbican/row"
	"barbican/version"
)

// spot tells a fragment: a label and a table, by their places.
type spot struct{ label, table int }

// level is what is kept of a label beside its fragments.
type level struct {
	below   []int // the places that it dominates; never written over
	commits int
	// rows are counted as they come and go: a quota is asked for at each commit, and to go over all rows then would take too long.
	rows int
}

// change is a write as a fragment takes it.
type change struct {
	table int
	key   string
	row   []byte // nil of one that is gone
	gone  bool
}

// change is that of a write, or the error for which it can't be.
func (s *Store) change(w api.Write) (change, error) {
	place, t, err := s.find(w.Table)
	if err != nil {
		return change{}, err
	}
	if w.Gone {
		key, err := row.KeyOf(t, w.Row)
		return change{table: place, key: key, gone: true}, err
	}
	key, err := row.Key(t, w.Row)
	if err != nil {
		return change{}, err
	}
	b, err := row.Encode(t, w.Row)
	return change{table: place, key: key, row: b}, err
}

// put does a change as one of a label's last commit. A key that is not there goes too: it has a version by this commit then.
func (s *Store) put(label int, c change) {
	here, where := &s.levels[label], spot{label, c.table}
	f := s.fragments[where]
	if f == nil {
		f = version.New()
		s.fragments[where] = f
	}
	if _, is := f.Get(c.key, here.commits); is {
		here.rows--
	}
	if !c.gone {
		here.rows++
	}
	// There is no error: no version has a greater commit than the last one.
	f.Put(c.key, here.commits, c.row, c.gone)
}

// seen is a row that a label sees, and its key.
type seen struct {
	key string
	row api.Row
}

// compare puts rows in order: by their keys, and of one key by their labels' places.
func (a seen) compare(b seen) int {
	return cmp.Or(strings.Compare(a.key, b.key), cmp.Compare(a.row.At, b.row.At))
}

// rowsOf are the rows alone.
func rowsOf(l []seen) []api.Row {
	var rows []api.Row
	for _, x := range l {
		rows = append(rows, x.row)
	}
	return rows
}
