package table

import (
	"strings"

	"barbican/api"
	"barbican/value"
)

// What the text of a table is made of, beside names and kinds.
const (
	head     = "TABLE "
	opening  = " ("
	between  = ", " // of two columns
	closing  = ")"
	blank    = " "
	keyWord  = "KEY"
	nullWord = "NULL"
)

// Text is a table as a text.
func Text(t api.Table) (string, error) {
	if err := Check(t); err != nil {
		return "", err
	}
	var columns []string
	for _, c := range t.Columns {
		columns = append(columns, columnText(c))
	}
	return head + t.Name + opening + strings.Join(columns, between) + closing, nil
}

// Parse is the table of a text.
func Parse(s string) (api.Table, error) {
	t := guess(s)
	// A table has one Text alone: so whatever the guess let pass is found here.
	if text, err := Text(t); err != nil || text != s {
		return api.Table{}, api.ErrForm
	}
	return t, nil
}

// columnText is a column as a text.
func columnText(c api.Column) string {
	s := c.Name + blank + value.Kind(c.Kind)
	switch {
	case c.Key:
		return s + blank + keyWord
	case c.Null:
		return s + blank + nullWord
	}
	return s
}

// guess is the one table that s may be the Text of, if it is that of any.
func guess(s string) api.Table {
	name, columns, _ := strings.Cut(strings.TrimPrefix(s, head), opening)
	t := api.Table{Name: name}
	// One column too many is as good to Check as all of them, and a long text takes no room.
	for _, column := range strings.SplitN(strings.TrimSuffix(columns, closing), between, api.MaxColumns+1) {
		t.Columns = append(t.Columns, guessColumn(column))
	}
	return t
}

// guessColumn is the one column that s may be the text of, if it is that of any.
func guessColumn(s string) api.Column {
	name, rest, _ := strings.Cut(s, blank)
	kind, mark, _ := strings.Cut(rest, blank)
	return api.Column{Name: name, Kind: kindOf(kind), Key: mark == keyWord, Null: mark == nullWord}
}

// kindOf is the kind of a word; where it is that of none, it is null's, of which no column may be.
func kindOf(word string) int {
	for _, kind := range [...]int{api.KindInt, api.KindText, api.KindBool} {
		if value.Kind(kind) == word {
			return kind
		}
	}
	return api.KindNull
}
