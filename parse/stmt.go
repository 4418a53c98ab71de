package parse

func (r *reader) statement() Stmt {
	switch r.oneOf("select", "insert", "update", "delete", "begin", "commit", "rollback", "release", "view", "explain") {
	case "select":
		return r.query(Select)
	case "insert":
		return r.insert()
	case "update":
		return r.update()
	case "delete":
		r.must("from")
		return Stmt{Kind: Delete, Table: r.name(), Where: r.where(), Limit: noLimit}
	case "begin":
		return Stmt{Kind: Begin, Limit: noLimit}
	case "commit":
		return Stmt{Kind: Commit, Limit: noLimit}
	case "rollback":
		return Stmt{Kind: Rollback, Limit: noLimit}
	case "release":
		return Stmt{Kind: Release, Table: r.name(), Limit: noLimit}
	case "view":
		return Stmt{Kind: View, Table: r.name(), Limit: noLimit}
	case "explain":
		r.must("select")
		return r.query(Explain)
	}
	r.fail()
	return Stmt{}
}

// query reads what stands behind SELECT.
func (r *reader) query(kind int) Stmt {
	x := Stmt{Kind: kind, Items: r.items()}
	r.must("from")
	x.Table = r.name()
	x.Where = r.where()
	if r.has("group") {
		r.must("by")
		x.Group = list(r, r.name)
	}
	if r.has("order") {
		r.must("by")
		x.Order = list(r, r.sort)
	}
	x.Limit = r.limit()
	return x
}

func (r *reader) insert() Stmt {
	r.must("into")
	x := Stmt{Kind: Insert, Table: r.name(), Limit: noLimit}
	r.must("values", "(")
	x.Items = list(r, r.value)
	r.must(")")
	return x
}

func (r *reader) update() Stmt {
	x := Stmt{Kind: Update, Table: r.name(), Limit: noLimit}
	r.must("set")
	x.Items = list(r, r.setting)
	x.Where = r.where()
	return x
}

// items reads what a SELECT shows: none stand for all columns.
func (r *reader) items() []Item {
	if r.has("*") {
		return nil
	}
	return list(r, r.item)
}

func (r *reader) item() Item {
	x := r.value()
	if r.has("as") {
		x.As = r.name()
	}
	return x
}

func (r *reader) value() Item { return Item{Expr: r.expr()} }

func (r *reader) setting() Item {
	column := r.name()
	r.must("=")
	return Item{Expr: r.expr(), As: column}
}

func (r *reader) where() []Expr {
	if !r.has("where") {
		return nil
	}
	return []Expr{r.expr()}
}

func (r *reader) sort() Sort {
	x := Sort{Expr: r.expr()}
	x.Desc = r.oneOf("asc", "desc") == "desc"
	return x
}

func (r *reader) limit() int {
	if !r.has("limit") {
		return noLimit
	}
	return r.take(isNumber).Int
}
