package parse

import (
	"slices"
	"strconv"
	"strings"

	"barbican/api"
	"barbican/table"
	"barbican/value"
)

// isExpr tells whether an expression may be, however deep it is.
func isExpr(x Expr) bool {
	if len(x.Args) != argsOf(x.Op) || !all(x.Args, isExpr) {
		return false
	}
	switch x.Op {
	case "lit":
		return x.Name == "" && value.Valid(x.Value) == nil && x.Value.Int >= 0
	case "col":
		return table.Name(x.Name) && x.Value == api.Value{}
	}
	return x.Name == "" && x.Value == api.Value{}
}

// argsOf is how many Args an Op has: below 0 of one that is none.
func argsOf(op string) int {
	switch op {
	case "lit", "col", "label", "rows":
		return 0
	case "neg", "not", "isnull", "notnull", "count", "sum", "min", "max":
		return 1
	case "and", "or", "=", "<>", "<", "<=", ">", ">=", "+", "-", "||", "*", "/", "%":
		return 2
	}
	return -1
}

// isStmt tells whether a statement is one, however deep its expressions are.
func isStmt(x Stmt) bool {
	if !Same(x, only(x)) || !all(exprs(x), isExpr) {
		return false
	}
	switch x.Kind {
	case Select, Explain:
		return table.Name(x.Table) && all(x.Items, isShown) && len(x.Where) <= 1 && all(x.Group, table.Name) && x.Limit >= noLimit
	case Insert:
		return table.Name(x.Table) && len(x.Items) > 0 && all(x.Items, isValue)
	case Update:
		return table.Name(x.Table) && len(x.Items) > 0 && all(x.Items, isSetting) && len(x.Where) <= 1
	case Delete:
		return table.Name(x.Table) && len(x.Where) <= 1
	case Release, View:
		return table.Name(x.Table)
	}
	return x.Kind == Begin || x.Kind == Commit || x.Kind == Rollback
}

// only is what its kind names of a statement, and nothing else.
func only(x Stmt) Stmt {
	own := Stmt{Kind: x.Kind, Limit: noLimit}
	switch x.Kind {
	case Select, Explain:
		own = x
	case Insert:
		own.Table, own.Items = x.Table, x.Items
	case Update:
		own.Table, own.Items, own.Where = x.Table, x.Items, x.Where
	case Delete:
		own.Table, own.Where = x.Table, x.Where
	case Release, View:
		own.Table = x.Table
	}
	return own
}

// exprs are the expressions of a statement that are no parts of others.
func exprs(x Stmt) []Expr {
	l := slices.Clone(x.Where)
	for _, i := range x.Items {
		l = append(l, i.Expr)
	}
	for _, o := range x.Order {
		l = append(l, o.Expr)
	}
	return l
}

func isShown(i Item) bool { return isValue(i) || isSetting(i) }

func isValue(i Item) bool { return i.As == "" }

func isSetting(i Item) bool { return table.Name(i.As) }

func all[T any](l []T, so func(T) bool) bool {
	for _, x := range l {
		if !so(x) {
			return false
		}
	}
	return true
}

// told is the text of a statement that is one.
func told(x Stmt) string {
	switch x.Kind {
	case Select:
		return toldQuery(x)
	case Explain:
		return "EXPLAIN " + toldQuery(x)
	case Insert:
		return "INSERT INTO " + x.Table + " VALUES (" + joined(x.Items, toldItem) + ")"
	case Update:
		return "UPDATE " + x.Table + " SET " + joined(x.Items, toldSetting) + toldWhere(x)
	case Delete:
		return "DELETE FROM " + x.Table + toldWhere(x)
	case Begin:
		return "BEGIN"
	case Commit:
		return "COMMIT"
	case Rollback:
		return "ROLLBACK"
	case Release:
		return "RELEASE " + x.Table
	}
	return "VIEW " + x.Table
}

func toldQuery(x Stmt) string {
	s := "SELECT *"
	if len(x.Items) > 0 {
		s = "SELECT " + joined(x.Items, toldItem)
	}
	s += " FROM " + x.Table + toldWhere(x)
	if len(x.Group) > 0 {
		s += " GROUP BY " + strings.Join(x.Group, between)
	}
	if len(x.Order) > 0 {
		s += " ORDER BY " + joined(x.Order, toldSort)
	}
	if x.Limit != noLimit {
		s += " LIMIT " + strconv.Itoa(x.Limit)
	}
	return s
}

func toldItem(i Item) string {
	if i.As == "" {
		return toldExpr(i.Expr)
	}
	return toldExpr(i.Expr) + " AS " + i.As
}

func toldSetting(i Item) string { return i.As + " = " + toldExpr(i.Expr) }

func toldSort(o Sort) string {
	if o.Desc {
		return toldExpr(o.Expr) + " DESC"
	}
	return toldExpr(o.Expr)
}

// toldWhere is the condition of a statement, with a blank ahead: the empty text, if it has none.
func toldWhere(x Stmt) string {
	if len(x.Where) == 0 {
		return ""
	}
	return " WHERE " + toldExpr(x.Where[0])
}

// toldExpr is the text of an expression that may be.
func toldExpr(x Expr) string {
	sign := strings.ToUpper(x.Op)
	switch x.Op {
	case "lit":
		s, _ := value.Print(x.Value) // it may be: so it has a text
		return s
	case "col":
		return x.Name
	case "label":
		return sign
	case "rows":
		return "COUNT(*)"
	case "neg":
		return "(-" + toldExpr(x.Args[0]) + ")"
	case "not":
		return "(NOT " + toldExpr(x.Args[0]) + ")"
	case "isnull":
		return "(" + toldExpr(x.Args[0]) + " IS NULL)"
	case "notnull":
		return "(" + toldExpr(x.Args[0]) + " IS NOT NULL)"
	case "count", "sum", "min", "max":
		return sign + "(" + toldExpr(x.Args[0]) + ")"
	}
	return "(" + toldExpr(x.Args[0]) + " " + sign + " " + toldExpr(x.Args[1]) + ")"
}

// joined is the texts of what goes on.
func joined[T any](l []T, tell func(T) string) string {
	var texts []string
	for _, x := range l {
		texts = append(texts, tell(x))
	}
	return strings.Join(texts, between)
}
