package table

import (
	"slices"

	"barbican/api"
)

// Catalog is the tables of a database.
type Catalog struct {
	tables []api.Table
}

// New is a catalog of tables.
func New(l []api.Table) (*Catalog, error) {
	if len(l) > api.MaxTables {
		return nil, api.ErrLong
	}
	// All tables are asked ahead of their names: one that may not be is told even where another one is there twice ahead of it.
	for _, t := range l {
		if err := Check(t); err != nil {
			return nil, err
		}
	}
	c := &Catalog{}
	for _, t := range l {
		if c.placeOf(t.Name) >= 0 {
			return nil, api.ErrTwice
		}
		c.tables = append(c.tables, own(t))
	}
	return c, nil
}

// Len is how many tables there are.
func (c *Catalog) Len() int {
	if c == nil {
		return 0
	}
	return len(c.tables)
}

// Find is the place of a table.
func (c *Catalog) Find(name string) (int, error) {
	i := c.placeOf(name)
	if i < 0 {
		return 0, api.ErrName
	}
	return i, nil
}

// Table is the table at a place.
func (c *Catalog) Table(i int) (api.Table, error) {
	if i < 0 || i >= c.Len() {
		return api.Table{}, api.ErrArg
	}
	return own(c.tables[i]), nil
}

// placeOf is the place of the table of a name, below 0 where there is none.
func (c *Catalog) placeOf(name string) int {
	for i := range c.Len() {
		if c.tables[i].Name == name {
			return i
		}
	}
	return -1
}

// own is a table whose columns nobody else has.
func own(t api.Table) api.Table {
	return api.Table{Name: t.Name, Columns: slices.Clone(t.Columns)}
}
