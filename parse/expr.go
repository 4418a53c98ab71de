package parse

import (
	"barbican/api"
	"barbican/lex"
	"barbican/value"
)

// expr reads an expression that is no part of another one.
// What reads its parts hands pointers on: brackets may be nested by ten thousands, and each has all levels of signs in it.
func (r *reader) expr() Expr {
	x := *r.or()
	r.deep = r.deep || tooDeep(x)
	return x
}

func (r *reader) or() *Expr { return r.row(r.and, "or") }

func (r *reader) and() *Expr { return r.row(r.not, "and") }

func (r *reader) not() *Expr {
	if r.has("not") {
		return of("not", r.not())
	}
	return r.compare()
}

// compare reads one comparison at most: none goes on behind another one.
func (r *reader) compare() *Expr {
	x := r.sum()
	if op := r.oneOf("=", "<>", "<", "<=", ">", ">="); op != "" {
		return of(op, x, r.sum())
	}
	return r.nothing(x)
}

// nothing reads whether x is null, or is not: x alone, if that is not asked.
func (r *reader) nothing(x *Expr) *Expr {
	if !r.has("is") {
		return x
	}
	op := "isnull"
	if r.has("not") {
		op = "notnull"
	}
	r.must("null")
	return of(op, x)
}

func (r *reader) sum() *Expr { return r.row(r.term, "+", "-", "||") }

func (r *reader) term() *Expr { return r.row(r.factor, "*", "/", "%") }

// row reads a row of these signs, from the left on; its parts, of the next level, bind more strongly.
func (r *reader) row(part func() *Expr, signs ...string) *Expr {
	x := part()
	for op := r.oneOf(signs...); op != ""; op = r.oneOf(signs...) {
		x = of(op, x, part())
	}
	return x
}

func (r *reader) factor() *Expr {
	switch {
	case r.has("-"):
		return of("neg", r.factor())
	case r.has("("):
		return r.closed()
	}
	return r.operand()
}

// closed reads what stands in brackets, the first of which was read.
func (r *reader) closed() *Expr {
	x := r.or()
	r.must(")")
	return x
}

func (r *reader) aggregate(op string) *Expr {
	r.must("(")
	if op == "count" && r.has("*") {
		r.must(")")
		return of("rows")
	}
	return of(op, r.closed())
}

// operand reads what begins with no sign.
func (r *reader) operand() *Expr {
	switch op := r.oneOf("null", "true", "false", "label", "count", "sum", "min", "max"); op {
	case "null":
		return literal(value.Null())
	case "true", "false":
		return literal(value.Bool(op == "true"))
	case "label":
		return of(op)
	case "count", "sum", "min", "max":
		return r.aggregate(op)
	}
	switch t := r.take(isOperand); t.Kind {
	case lex.Number:
		return literal(value.Int(t.Int))
	case lex.Text:
		return literal(value.Text(t.Text))
	default:
		return &Expr{Op: "col", Name: t.Text}
	}
}

func of(op string, args ...*Expr) *Expr {
	x := &Expr{Op: op}
	for _, a := range args {
		x.Args = append(x.Args, *a)
	}
	return x
}

func literal(v api.Value) *Expr { return &Expr{Op: "lit", Value: v} }
