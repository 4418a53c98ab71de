package parse_test

import (
	"slices"
	"strconv"
	"strings"
	"sync"

	"barbican/api"
	"barbican/lex"
	"barbican/parse"
	"barbican/table"
	"barbican/value"
)

// grammar is the chapter's, line by line what a part may be; whatever is no part of it is a word or a sign.
const grammar = `
statement = query
statement = INSERT INTO name VALUES ( ors )
statement = UPDATE name SET settings where
statement = DELETE FROM name where
statement = BEGIN
statement = COMMIT
statement = ROLLBACK
statement = RELEASE name
statement = VIEW name
statement = EXPLAIN query
query = SELECT items FROM name where group order limit
items = *
items = shown
shown = item
shown = item , shown
item = or
item = or AS name
ors = or
ors = or , ors
settings = name = or
settings = name = or , settings
where =
where = WHERE or
group =
group = GROUP BY names
names = name
names = name , names
order =
order = ORDER BY sorts
sorts = sort
sorts = sort , sorts
sort = or
sort = or ASC
sort = or DESC
limit =
limit = LIMIT number
or = and
or = or OR and
and = not
and = and AND not
not = NOT not
not = compare
compare = sum
compare = sum = sum
compare = sum <> sum
compare = sum < sum
compare = sum <= sum
compare = sum > sum
compare = sum >= sum
compare = sum IS NULL
compare = sum IS NOT NULL
sum = term
sum = sum + term
sum = sum - term
sum = sum || term
term = factor
term = term * factor
term = term / factor
term = term % factor
factor = number
factor = text
factor = NULL
factor = TRUE
factor = FALSE
factor = LABEL
factor = name
factor = - factor
factor = ( or )
factor = COUNT ( * )
factor = COUNT ( or )
factor = SUM ( or )
factor = MIN ( or )
factor = MAX ( or )
`

// word is a word of a line of the grammar: the place of a part in it, or below 0 what a token must be.
type word struct {
	part int
	said string
}

// book is the grammar: of each part its name, and the lines that say what it may be.
type book struct {
	names []string
	lines [][][]word
}

var theGrammar = sync.OnceValue(func() book {
	var b book
	all := strings.Split(strings.TrimSpace(grammar), "\n")
	for _, line := range all {
		if name := strings.Fields(line)[0]; !slices.Contains(b.names, name) {
			b.names = append(b.names, name)
		}
	}
	b.lines = make([][][]word, len(b.names))
	for _, line := range all {
		said := strings.Fields(line)
		words := []word{}
		for _, w := range said[2:] {
			words = append(words, word{slices.Index(b.names, w), w})
		}
		part := slices.Index(b.names, said[0])
		b.lines[part] = append(b.lines[part], words)
	}
	return b
})

// spot is how far a line of the grammar has come, and where it began.
type spot struct{ part, line, dot, from int }

// walk is how far all lines have come that can say the tokens so far.
type walk struct {
	book
	goal int
	sets [][]spot
}

func newWalk(goal string) *walk {
	w := &walk{book: theGrammar()}
	w.goal = slices.Index(w.names, goal)
	var first []spot
	for line := range w.lines[w.goal] {
		first = append(first, spot{w.goal, line, 0, 0})
	}
	w.sets = [][]spot{w.closed(first)}
	return w
}

func (w *walk) line(s spot) []word { return w.lines[s.part][s.line] }

// closed is a set with all that follows from what stands in it.
func (w *walk) closed(set []spot) []spot {
	at := len(w.sets)
	has := map[spot]bool{}
	var out []spot
	add := func(s spot) {
		if !has[s] {
			has[s] = true
			out = append(out, s)
		}
	}
	for _, s := range set {
		add(s)
	}
	for i := 0; i < len(out); i++ {
		s := out[i]
		line := w.line(s)
		if s.dot == len(line) {
			before := out
			if s.from < at {
				before = w.sets[s.from]
			}
			for _, b := range before {
				if l := w.line(b); b.dot < len(l) && l[b.dot].part == s.part {
					add(spot{b.part, b.line, b.dot + 1, b.from})
				}
			}
			continue
		}
		part := line[s.dot].part
		if part < 0 {
			continue
		}
		for j, l := range w.lines[part] {
			add(spot{part, j, 0, at})
			if len(l) == 0 {
				add(spot{s.part, s.line, s.dot + 1, s.from})
			}
		}
	}
	return out
}

// step goes on with a token, and tells whether it can.
func (w *walk) step(t lex.Token) bool {
	var set []spot
	for _, s := range w.sets[len(w.sets)-1] {
		if l := w.line(s); s.dot < len(l) && l[s.dot].part < 0 && fits(l[s.dot].said, t) {
			set = append(set, spot{s.part, s.line, s.dot + 1, s.from})
		}
	}
	if set == nil {
		return false
	}
	w.sets = append(w.sets, w.closed(set))
	return true
}

// back takes a step back.
func (w *walk) back() { w.sets = w.sets[:len(w.sets)-1] }

// whole tells whether the tokens so far are all.
func (w *walk) whole() bool {
	return slices.ContainsFunc(w.sets[len(w.sets)-1], func(s spot) bool {
		return s.part == w.goal && s.dot == len(w.line(s)) && s.from == 0
	})
}

// fits tells whether a token is what the grammar says.
func fits(said string, t lex.Token) bool {
	switch said {
	case "name":
		return t.Kind == lex.Word && table.Name(t.Text)
	case "number":
		return t.Kind == lex.Number
	case "text":
		return t.Kind == lex.Text && len(t.Text) <= api.MaxText
	}
	return (t.Kind == lex.Word || t.Kind == lex.Sign) && t.Text == strings.ToLower(said)
}

// fault is where and how a text is none of the grammar's: nil, if it is.
func fault(goal, s string) ([]lex.Token, int, error) {
	l, at, err := lex.Lex(s)
	if err != nil {
		return nil, at, err
	}
	w := newWalk(goal)
	for _, t := range l {
		if !w.step(t) {
			return nil, t.At, api.ErrSyntax
		}
	}
	if !w.whole() {
		return nil, len(s), api.ErrSyntax
	}
	return l, len(s), nil
}

// readExpr is what the chapter's words tell of an expression's text.
func readExpr(s string) (parse.Expr, int, error) {
	l, at, err := fault("or", s)
	if err != nil {
		return parse.Expr{}, at, err
	}
	x := exprOf(l)
	if deep(x) > api.MaxDepth {
		return parse.Expr{}, 0, api.ErrDepth
	}
	return x, at, nil
}

// read is what the chapter's words tell of a statement's text.
func read(s string) (parse.Stmt, int, error) {
	l, at, err := fault("statement", s)
	if err != nil {
		return parse.Stmt{}, at, err
	}
	x := stmtOf(l)
	for _, e := range tops(x) {
		if deep(e) > api.MaxDepth {
			return parse.Stmt{}, 0, api.ErrDepth
		}
	}
	return x, at, nil
}

// tops are a statement's expressions.
func tops(x parse.Stmt) []parse.Expr {
	l := slices.Clone(x.Where)
	for _, i := range x.Items {
		l = append(l, i.Expr)
	}
	for _, o := range x.Order {
		l = append(l, o.Expr)
	}
	return l
}

func deep(x parse.Expr) int {
	n := 0
	for _, a := range x.Args {
		n = max(n, deep(a))
	}
	return n + 1
}

// exprOf is the expression of tokens that are one: cut at the last sign that binds the least.
func exprOf(l []lex.Token) parse.Expr {
	if i := lastOf(l, "or"); i > 0 {
		return on("or", exprOf(l[:i]), exprOf(l[i+1:]))
	}
	if i := lastOf(l, "and"); i > 0 {
		return on("and", exprOf(l[:i]), exprOf(l[i+1:]))
	}
	if is(l[0], "not") {
		return on("not", exprOf(l[1:]))
	}
	if i := lastOf(l, "is"); i > 0 {
		if is(l[i+1], "not") {
			return on("notnull", exprOf(l[:i]))
		}
		return on("isnull", exprOf(l[:i]))
	}
	for _, signs := range [][]string{{"=", "<>", "<", "<=", ">", ">="}, {"+", "-", "||"}, {"*", "/", "%"}} {
		if i := lastOf(l, signs...); i > 0 {
			return on(l[i].Text, exprOf(l[:i]), exprOf(l[i+1:]))
		}
	}
	return factorOf(l)
}

func factorOf(l []lex.Token) parse.Expr {
	t, last := l[0], len(l)-1
	switch {
	case is(t, "-"):
		return on("neg", exprOf(l[1:]))
	case is(t, "("):
		return exprOf(l[1:last])
	case last > 0 && is(l[2], "*"):
		return on("rows")
	case last > 0:
		return on(t.Text, exprOf(l[2:last]))
	case t.Kind == lex.Number:
		return lit(api.Value{Kind: api.KindInt, Int: t.Int})
	case t.Kind == lex.Text:
		return lit(api.Value{Kind: api.KindText, Text: t.Text})
	case is(t, "null"):
		return lit(api.Value{})
	case is(t, "true"), is(t, "false"):
		return lit(api.Value{Kind: api.KindBool, Bool: t.Text == "true"})
	case is(t, "label"):
		return on("label")
	}
	return col(t.Text)
}

// lastOf is the place of the last of these outside of brackets, with something ahead of it that it can stand behind; below 0 of none.
func lastOf(l []lex.Token, texts ...string) int {
	at, open := -1, 0
	for i, t := range l {
		switch {
		case is(t, "("):
			open++
		case is(t, ")"):
			open--
		case open == 0 && i > 0 && isOne(t, texts) && ends(l[i-1]):
			at = i
		}
	}
	return at
}

// ends tells whether an expression may end with a token.
func ends(t lex.Token) bool {
	if t.Kind == lex.Sign {
		return t.Text == ")"
	}
	return !isOne(t, []string{"or", "and", "not", "is"})
}

func is(t lex.Token, text string) bool {
	return (t.Kind == lex.Word || t.Kind == lex.Sign) && t.Text == text
}

func isOne(t lex.Token, texts []string) bool {
	return slices.ContainsFunc(texts, func(s string) bool { return is(t, s) })
}

// stmtOf is the statement of tokens that are one: cut at its words, which stand nowhere else.
func stmtOf(l []lex.Token) parse.Stmt {
	x := parse.Stmt{Limit: -1}
	switch first, rest := l[0].Text, l[1:]; first {
	case "explain":
		x = stmtOf(rest)
		x.Kind = parse.Explain
	case "select":
		x.Kind = parse.Select
		x.Table = behind(l, "from")[0].Text
		if shown := behind(l, "select"); !is(shown[0], "*") {
			for _, i := range cut(shown) {
				x.Items = append(x.Items, itemOf(i))
			}
		}
		x.Where = whereOf(l)
		for _, g := range cut(behind(l, "group")) {
			x.Group = append(x.Group, g[0].Text)
		}
		for _, o := range cut(behind(l, "order")) {
			x.Order = append(x.Order, sortOf(o))
		}
		if n := behind(l, "limit"); n != nil {
			x.Limit = n[0].Int
		}
	case "insert":
		x.Kind, x.Table = parse.Insert, l[2].Text
		values := behind(l, "values")
		for _, v := range cut(values[1 : len(values)-1]) {
			x.Items = append(x.Items, parse.Item{Expr: exprOf(v)})
		}
	case "update":
		x.Kind, x.Table = parse.Update, l[1].Text
		for _, s := range cut(behind(l, "set")) {
			x.Items = append(x.Items, parse.Item{Expr: exprOf(s[2:]), As: s[0].Text})
		}
		x.Where = whereOf(l)
	case "delete":
		x.Kind, x.Table = parse.Delete, l[2].Text
		x.Where = whereOf(l)
	case "begin":
		x.Kind = parse.Begin
	case "commit":
		x.Kind = parse.Commit
	case "rollback":
		x.Kind = parse.Rollback
	case "release":
		x.Kind, x.Table = parse.Release, l[1].Text
	case "view":
		x.Kind, x.Table = parse.View, l[1].Text
	}
	return x
}

func whereOf(l []lex.Token) []parse.Expr {
	if w := behind(l, "where"); w != nil {
		return []parse.Expr{exprOf(w)}
	}
	return nil
}

func itemOf(l []lex.Token) parse.Item {
	if i := slices.IndexFunc(l, func(t lex.Token) bool { return is(t, "as") }); i > 0 {
		return parse.Item{Expr: exprOf(l[:i]), As: l[i+1].Text}
	}
	return parse.Item{Expr: exprOf(l)}
}

func sortOf(l []lex.Token) parse.Sort {
	last := l[len(l)-1]
	if isOne(last, []string{"asc", "desc"}) {
		l = l[:len(l)-1]
	}
	return parse.Sort{Expr: exprOf(l), Desc: is(last, "desc")}
}

// behind is what stands behind a word, up to the next one that begins a part: nil, if it is not there.
func behind(l []lex.Token, word string) []lex.Token {
	i := slices.IndexFunc(l, func(t lex.Token) bool { return is(t, word) })
	if i < 0 {
		return nil
	}
	l = l[i+1:]
	if is(l[0], "by") {
		l = l[1:]
	}
	end := slices.IndexFunc(l, func(t lex.Token) bool {
		return isOne(t, []string{"from", "where", "group", "order", "limit", "set", "values"})
	})
	if end < 0 {
		return l
	}
	return l[:end]
}

// cut are the pieces between the commas that stand outside of brackets.
func cut(l []lex.Token) [][]lex.Token {
	if len(l) == 0 {
		return nil
	}
	var out [][]lex.Token
	from, open := 0, 0
	for i, t := range l {
		switch {
		case is(t, "("):
			open++
		case is(t, ")"):
			open--
		case is(t, ",") && open == 0:
			out = append(out, l[from:i])
			from = i + 1
		}
	}
	return append(out, l[from:])
}

// form is how an Op is told: $ stands for what it is done with, one behind the other.
func form(op string) (string, bool) {
	switch op {
	case "label":
		return "LABEL", true
	case "rows":
		return "COUNT(*)", true
	case "neg":
		return "(-$)", true
	case "not":
		return "(NOT $)", true
	case "isnull":
		return "($ IS NULL)", true
	case "notnull":
		return "($ IS NOT NULL)", true
	case "count":
		return "COUNT($)", true
	case "sum":
		return "SUM($)", true
	case "min":
		return "MIN($)", true
	case "max":
		return "MAX($)", true
	case "and":
		return "($ AND $)", true
	case "or":
		return "($ OR $)", true
	}
	if slices.Contains(signs(), op) {
		return "($ " + op + " $)", true
	}
	return "", false
}

// signs are the Ops of two that are signs.
func signs() []string {
	return []string{"=", "<>", "<", "<=", ">", ">=", "+", "-", "||", "*", "/", "%"}
}

// tellExpr is what the chapter's words tell of an expression: its text, and whether it may be.
func tellExpr(x parse.Expr) (string, bool) {
	switch x.Op {
	case "lit":
		s, err := value.Print(x.Value)
		return s, err == nil && !strings.HasPrefix(s, "-") && x.Name == "" && len(x.Args) == 0
	case "col":
		return x.Name, table.Name(x.Name) && x.Value == api.Value{} && len(x.Args) == 0
	}
	s, ok := form(x.Op)
	if !ok || strings.Count(s, "$") != len(x.Args) || x.Name != "" || x.Value != (api.Value{}) {
		return "", false
	}
	pieces := strings.Split(s, "$")
	s = pieces[0]
	for i, a := range x.Args {
		told, ok := tellExpr(a)
		if !ok {
			return "", false
		}
		s += told + pieces[i+1]
	}
	return s, true
}

// printExpr is what the chapter's words tell that PrintExpr answers.
func printExpr(x parse.Expr) (string, error) {
	s, ok := tellExpr(x)
	switch {
	case !ok:
		return "", api.ErrSyntax
	case deep(x) > api.MaxDepth:
		return "", api.ErrDepth
	}
	return s, nil
}

// printed is what the chapter's words tell that Print answers: a statement has what its kind names, and nothing else.
func printed(x parse.Stmt) (string, error) {
	s, ok := tell(x)
	if !ok {
		return "", api.ErrSyntax
	}
	for _, e := range tops(x) {
		if deep(e) > api.MaxDepth {
			return "", api.ErrDepth
		}
	}
	return s, nil
}

func tell(x parse.Stmt) (string, bool) {
	ok := true
	must := func(so bool) { ok = ok && so }
	text := func(e parse.Expr) string {
		s, may := tellExpr(e)
		must(may)
		return s
	}
	query := x.Kind == parse.Select || x.Kind == parse.Explain
	where := query || x.Kind == parse.Update || x.Kind == parse.Delete
	plain := x.Kind == parse.Begin || x.Kind == parse.Commit || x.Kind == parse.Rollback
	must(x.Kind >= 1 && x.Kind <= 10)
	must(plain && x.Table == "" || !plain && table.Name(x.Table))
	must(len(x.Where) == 0 || where && len(x.Where) == 1)
	must(query || len(x.Group) == 0 && len(x.Order) == 0 && x.Limit == -1)
	must(x.Limit >= -1)
	for _, g := range x.Group {
		must(table.Name(g))
	}
	var items []string
	for _, i := range x.Items {
		s := text(i.Expr)
		switch {
		case x.Kind == parse.Update:
			must(table.Name(i.As))
			s = i.As + " = " + s
		case query && i.As != "":
			must(table.Name(i.As))
			s += " AS " + i.As
		default:
			must(i.As == "")
		}
		items = append(items, s)
	}
	shown := strings.Join(items, ", ")
	if x.Kind == parse.Insert || x.Kind == parse.Update {
		must(len(items) > 0)
	} else if !query {
		must(len(items) == 0)
	}
	var s string
	switch x.Kind {
	case parse.Select, parse.Explain:
		if shown == "" {
			shown = "*"
		}
		s = "SELECT " + shown + " FROM " + x.Table
		if x.Kind == parse.Explain {
			s = "EXPLAIN " + s
		}
	case parse.Insert:
		s = "INSERT INTO " + x.Table + " VALUES (" + shown + ")"
	case parse.Update:
		s = "UPDATE " + x.Table + " SET " + shown
	case parse.Delete:
		s = "DELETE FROM " + x.Table
	case parse.Begin:
		s = "BEGIN"
	case parse.Commit:
		s = "COMMIT"
	case parse.Rollback:
		s = "ROLLBACK"
	case parse.Release:
		s = "RELEASE " + x.Table
	case parse.View:
		s = "VIEW " + x.Table
	}
	for _, e := range x.Where {
		s += " WHERE " + text(e)
	}
	if len(x.Group) > 0 {
		s += " GROUP BY " + strings.Join(x.Group, ", ")
	}
	for i, o := range x.Order {
		s += []string{" ORDER BY ", ", "}[min(i, 1)] + text(o.Expr)
		if o.Desc {
			s += " DESC"
		}
	}
	if x.Limit >= 0 {
		s += " LIMIT " + strconv.Itoa(x.Limit)
	}
	return s, ok
}

// Expressions in short.
func on(op string, args ...parse.Expr) parse.Expr { return parse.Expr{Op: op, Args: args} }
func lit(v api.Value) parse.Expr                  { return parse.Expr{Op: "lit", Value: v} }
func col(name string) parse.Expr                  { return parse.Expr{Op: "col", Name: name} }
func num(n int) parse.Expr                        { return lit(api.Value{Kind: api.KindInt, Int: n}) }
func text(s string) parse.Expr                    { return lit(api.Value{Kind: api.KindText, Text: s}) }
func truth(b bool) parse.Expr                     { return lit(api.Value{Kind: api.KindBool, Bool: b}) }
func null() parse.Expr                            { return lit(api.Value{}) }
