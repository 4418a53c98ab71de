package parse_test

import (
	"errors"
	"fmt"
	"math"
	"math/rand"
	"reflect"
	"slices"
	"strings"
	"sync"
	"testing"

	"barbican/api"
	"barbican/lex"
	"barbican/parse"
)

func TestPS1Kinds(t *testing.T) {
	for i, k := range []int{parse.Select, parse.Insert, parse.Update, parse.Delete, parse.Begin, parse.Commit, parse.Rollback, parse.Release, parse.View, parse.Explain} {
		if k != i+1 {
			t.Errorf("the kind %d is %d", i+1, k)
		}
	}
}

func TestPS1Examples(t *testing.T) {
	readsAs(t, "a + 1 * 2 = 3 or not b", "(((a + (1 * 2)) = 3) OR (NOT b))")
	refuses(t, "SELECT FROM t", 7, api.ErrSyntax)
}

// said is a text, and the statement that it is.
type said struct {
	text string
	stmt parse.Stmt
}

// Items and orders in short.
func items(l ...parse.Expr) []parse.Item {
	var out []parse.Item
	for _, x := range l {
		out = append(out, parse.Item{Expr: x})
	}
	return out
}

func as(x parse.Expr, name string) parse.Item { return parse.Item{Expr: x, As: name} }

func sorts(l ...parse.Expr) []parse.Sort {
	var out []parse.Sort
	for _, x := range l {
		out = append(out, parse.Sort{Expr: x})
	}
	return out
}

func down(x parse.Expr) parse.Sort { return parse.Sort{Expr: x, Desc: true} }

// queries are what may stand behind SELECT, with and without each part.
func queries() []said {
	a, b := col("a"), col("b")
	return []said{
		{"* from t", parse.Stmt{Table: "t", Limit: -1}},
		{"a from t", parse.Stmt{Table: "t", Items: items(a), Limit: -1}},
		{"a , b , 1 from t", parse.Stmt{Table: "t", Items: items(a, b, num(1)), Limit: -1}},
		{"a as b from t", parse.Stmt{Table: "t", Items: []parse.Item{as(a, "b")}, Limit: -1}},
		{"a as x , b , 1 + 2 as y , label from t", parse.Stmt{Table: "t", Items: []parse.Item{as(a, "x"), as(b, ""), as(on("+", num(1), num(2)), "y"), as(on("label"), "")}, Limit: -1}},
		{"a or b as c from t", parse.Stmt{Table: "t", Items: []parse.Item{as(on("or", a, b), "c")}, Limit: -1}},
		{"* from t where a", parse.Stmt{Table: "t", Where: []parse.Expr{a}, Limit: -1}},
		{"* from t where a = 1 or b is null", parse.Stmt{Table: "t", Where: []parse.Expr{on("or", on("=", a, num(1)), on("isnull", b))}, Limit: -1}},
		{"* from t group by a", parse.Stmt{Table: "t", Group: []string{"a"}, Limit: -1}},
		{"a , count ( * ) from t group by a , b , a", parse.Stmt{Table: "t", Items: items(a, on("rows")), Group: []string{"a", "b", "a"}, Limit: -1}},
		{"* from t order by a", parse.Stmt{Table: "t", Order: sorts(a), Limit: -1}},
		{"* from t order by a asc", parse.Stmt{Table: "t", Order: sorts(a), Limit: -1}},
		{"* from t order by a desc", parse.Stmt{Table: "t", Order: []parse.Sort{down(a)}, Limit: -1}},
		{"* from t order by a , b desc , - a asc , not b desc", parse.Stmt{Table: "t", Order: []parse.Sort{{Expr: a}, down(b), {Expr: on("neg", a)}, down(on("not", b))}, Limit: -1}},
		{"* from t limit 0", parse.Stmt{Table: "t"}},
		{"* from t limit 1", parse.Stmt{Table: "t", Limit: 1}},
		{"* from t limit 007", parse.Stmt{Table: "t", Limit: 7}},
		{"* from t limit 9223372036854775807", parse.Stmt{Table: "t", Limit: math.MaxInt}},
		{"* from t where a group by b", parse.Stmt{Table: "t", Where: []parse.Expr{a}, Group: []string{"b"}, Limit: -1}},
		{"* from t where a order by b", parse.Stmt{Table: "t", Where: []parse.Expr{a}, Order: sorts(b), Limit: -1}},
		{"* from t where a limit 3", parse.Stmt{Table: "t", Where: []parse.Expr{a}, Limit: 3}},
		{"* from t group by a order by b limit 3", parse.Stmt{Table: "t", Group: []string{"a"}, Order: sorts(b), Limit: 3}},
		{"* from t group by a limit 3", parse.Stmt{Table: "t", Group: []string{"a"}, Limit: 3}},
		{"* from t order by b limit 3", parse.Stmt{Table: "t", Order: sorts(b), Limit: 3}},
		{"sum ( a ) as s , min ( b ) , max ( b ) , count ( a ) from t1 where a < b and not a = 2 group by a , c order by sum ( a ) desc , c limit 10", parse.Stmt{
			Table: "t1",
			Items: []parse.Item{as(on("sum", a), "s"), as(on("min", b), ""), as(on("max", b), ""), as(on("count", a), "")},
			Where: []parse.Expr{on("and", on("<", a, b), on("not", on("=", a, num(2))))},
			Group: []string{"a", "c"},
			Order: []parse.Sort{down(on("sum", a)), {Expr: col("c")}},
			Limit: 10,
		}},
	}
}

// statements are of each kind, with and without each part.
func statements() []said {
	a, b := col("a"), col("b")
	var out []said
	for _, q := range queries() {
		q.stmt.Kind = parse.Select
		out = append(out, said{"select " + q.text, q.stmt})
		q.stmt.Kind = parse.Explain
		out = append(out, said{"explain select " + q.text, q.stmt})
	}
	return append(out,
		said{"insert into t values ( 1 )", parse.Stmt{Kind: parse.Insert, Table: "t", Items: items(num(1)), Limit: -1}},
		said{"insert into t values ( 1 , - 2 , null , true , false , a + 1 , label )", parse.Stmt{Kind: parse.Insert, Table: "t", Items: items(num(1), on("neg", num(2)), null(), truth(true), truth(false), on("+", a, num(1)), on("label")), Limit: -1}},
		said{"insert into t values ( ( 1 ) , ( ( a or b ) ) )", parse.Stmt{Kind: parse.Insert, Table: "t", Items: items(num(1), on("or", a, b)), Limit: -1}},
		said{"update t set a = 1", parse.Stmt{Kind: parse.Update, Table: "t", Items: []parse.Item{as(num(1), "a")}, Limit: -1}},
		said{"update t set a = a + 1 , b = a = b , c = null", parse.Stmt{Kind: parse.Update, Table: "t", Items: []parse.Item{as(on("+", a, num(1)), "a"), as(on("=", a, b), "b"), as(null(), "c")}, Limit: -1}},
		said{"update t set a = 1 where b", parse.Stmt{Kind: parse.Update, Table: "t", Items: []parse.Item{as(num(1), "a")}, Where: []parse.Expr{b}, Limit: -1}},
		said{"update t set a = b or a , a = 2 where a = 1 or b = 2", parse.Stmt{Kind: parse.Update, Table: "t", Items: []parse.Item{as(on("or", b, a), "a"), as(num(2), "a")}, Where: []parse.Expr{on("or", on("=", a, num(1)), on("=", b, num(2)))}, Limit: -1}},
		said{"delete from t", parse.Stmt{Kind: parse.Delete, Table: "t", Limit: -1}},
		said{"delete from t where a = 1", parse.Stmt{Kind: parse.Delete, Table: "t", Where: []parse.Expr{on("=", a, num(1))}, Limit: -1}},
		said{"begin", parse.Stmt{Kind: parse.Begin, Limit: -1}},
		said{"commit", parse.Stmt{Kind: parse.Commit, Limit: -1}},
		said{"rollback", parse.Stmt{Kind: parse.Rollback, Limit: -1}},
		said{"release v", parse.Stmt{Kind: parse.Release, Table: "v", Limit: -1}},
		said{"view v_1", parse.Stmt{Kind: parse.View, Table: "v_1", Limit: -1}},
	)
}

func TestPS1Statements(t *testing.T) {
	for _, s := range statements() {
		gives(t, s.text, s.stmt)
		gives(t, strings.ToUpper(s.text), s.stmt)
		gives(t, strings.ToUpper(s.text[:1])+s.text[1:], s.stmt)
	}
	quoted := parse.Stmt{Kind: parse.Insert, Table: "t", Items: items(text("It's"), text(""), text("SELECT"), text("'")), Limit: -1}
	gives(t, "Insert Into T Values ( 'It''s' , '' , 'SELECT' , '''' )", quoted)
	gives(t, "insert into t values('It''s','','SELECT','''')", quoted)
}

// Blanks may be laid anywhere between words, and be missing where two words can stand so.
func TestPS1Blanks(t *testing.T) {
	for _, s := range statements() {
		for _, blank := range []string{"  ", "\n", "\t", "\r", " \t\r\n "} {
			gives(t, strings.ReplaceAll(s.text, " ", blank), s.stmt)
			gives(t, blank+s.text+blank, s.stmt)
		}
		gives(t, tight(s.text), s.stmt)
	}
	q := parse.Stmt{Kind: parse.Select, Table: "t", Items: items(num(1)), Limit: 2}
	gives(t, "select 1from t limit 2", q)
	gives(t, "select(1)from t limit 2", q)
	gives(t, "select*from t where'a'='b'order by-a desc", parse.Stmt{Kind: parse.Select, Table: "t", Where: []parse.Expr{on("=", text("a"), text("b"))}, Order: []parse.Sort{down(on("neg", col("a")))}, Limit: -1})
	refuses(t, "select*fromt", 7, api.ErrSyntax)
	refuses(t, "selecta from t", 0, api.ErrSyntax)
	refuses(t, "select * from t limit1", 16, api.ErrSyntax)
	refuses(t, "select a < > b from t", 11, api.ErrSyntax)
}

// tight is a text without the blanks beside its signs.
func tight(s string) string {
	for _, sign := range []string{"(", ")", ",", "*", "+", "-", "=", "<"} {
		s = strings.ReplaceAll(s, " "+sign, sign)
		s = strings.ReplaceAll(s, sign+" ", sign)
	}
	return s
}

func TestPS1Empty(t *testing.T) {
	for _, s := range []string{"", " ", "\n", " \t\r\n ", strings.Repeat(" ", api.MaxSQL)} {
		refuses(t, s, len(s), api.ErrSyntax)
		refusesExpr(t, s, len(s), api.ErrSyntax)
	}
}

func TestPS1TooLong(t *testing.T) {
	for _, s := range []string{" ", "a", "(", ";", "'", "9", "select * from t ", "- "} {
		over := strings.Repeat(s, api.MaxSQL/len(s)+1)[:api.MaxSQL+1]
		refuses(t, over, 0, api.ErrLong)
		refusesExpr(t, over, 0, api.ErrLong)
	}
	rest := strings.Repeat(" ", api.MaxSQL-len("begin"))
	gives(t, "begin"+rest, parse.Stmt{Kind: parse.Begin, Limit: -1})
	gives(t, rest+"begin", parse.Stmt{Kind: parse.Begin, Limit: -1})
	refuses(t, rest+" begin", 0, api.ErrLong)
	refuses(t, "begin "+rest, 0, api.ErrLong)
}

// What can't be cut into words is told ahead of whatever the grammar says, also behind a fault of it.
func TestPS1Lex(t *testing.T) {
	for _, c := range []struct {
		text string
		at   int
		err  error
	}{
		{";", 0, api.ErrForm},
		{"select * from t;", 15, api.ErrForm},
		{"select * ; from t", 9, api.ErrForm},
		{"from from from ;", 15, api.ErrForm},
		{"select select 'a", 14, api.ErrForm},
		{"a b c d \x00", 8, api.ErrForm},
		{"; from from", 0, api.ErrForm},
		{") 9223372036854775808", 2, api.ErrOver},
		{"9223372036854775808 )", 0, api.ErrOver},
		{"select * from t limit 9223372036854775808", 22, api.ErrOver},
		{"select -9223372036854775808 from t", 8, api.ErrOver},
		{"insert into t values ('it's')", 27, api.ErrForm},
		{"select _a from t", 7, api.ErrForm},
		{"select a.b from t", 8, api.ErrForm},
		{strings.Repeat("-", 100) + "a;", 101, api.ErrForm},
	} {
		refuses(t, c.text, c.at, c.err)
		refusesExpr(t, c.text, c.at, c.err)
	}
}

// Each statement is cut behind each of its tokens, and goes on with each token at each place.
func TestPS1EachToken(t *testing.T) {
	others := []string{"select", "from", "where", "group", "by", "order", "asc", "desc", "limit", "as", "set", "values", "into", "begin", "not", "and", "or", "is", "null", "label", "count", "key", "int", "a", "1", "'x'", "(", ")", ",", "*", "-", "=", "||"}
	for _, s := range statements() {
		words := strings.Fields(s.text)
		for i := range len(words) + 1 {
			ahead, behind := strings.Join(words[:i], " "), strings.Join(words[i:], " ")
			parses(t, ahead)
			parses(t, ahead+"  ")
			for _, o := range others {
				parses(t, ahead+" "+o+" "+behind)
				if i < len(words) {
					parses(t, ahead+" "+o+" "+strings.Join(words[i+1:], " "))
				}
			}
		}
	}
}

func TestPS1Places(t *testing.T) {
	for s, at := range map[string]int{
		"select": 6, "select ": 7, "select *": 8, "select * from": 13, "select * from  ": 15, "select a as": 11, "select a ,": 10,
		"select * from t where": 21, "select * from t group": 21, "select * from t group by": 24, "select * from t order": 21, "select * from t order by": 24, "select * from t limit": 21,
		"insert": 6, "insert into": 11, "insert into t": 13, "insert into t values": 20, "insert into t values (": 22, "insert into t values ( 1": 24, "insert into t values ( 1 ,": 26,
		"update": 6, "update t": 8, "update t set": 12, "update t set a": 14, "update t set a =": 16, "update t set a = 1 ,": 20, "update t set a = 1 where": 24,
		"delete": 6, "delete from": 11, "delete from t where": 19, "release": 7, "view": 4, "explain": 7, "explain select": 14, "explain select * from": 21,
		"table": 0, "t": 0, "1": 0, "'select'": 0, "(": 0, "( select * from t )": 0, "*": 0, "from": 0, "create table t": 0, "values ( 1 )": 0,
		"select * , a from t": 9, "select a , * from t": 11, "select * as a from t": 9, "select a b from t": 9, "select a as from t": 12, "select a as 1 from t": 12, "select a as 'b' from t": 12, "select a as b c from t": 14, "select as a from t": 7,
		"select * from 1": 14, "select * from 't'": 14, "select * from t , u": 16, "select * from t t": 16, "select * from ( t )": 14, "select * from t 1": 16,
		"select * from t where a b": 24, "select * from t where a , b": 24, "select * from t where a where b": 24, "select * from t where order by a": 22,
		"select * from t group a": 22, "select * from t group by 1": 25, "select * from t group by a + 1": 27, "select * from t group by ( a )": 25, "select * from t group by a ,": 28, "select * from t group by a b": 27, "select * from t group by a desc": 27, "select * from t group by count": 25,
		"select * from t order a": 22, "select * from t order by a asc desc": 31, "select * from t order by a b": 27, "select * from t order by asc": 25, "select * from t order by *": 25, "select * from t order by a as b": 27,
		"select * from t group by a where b": 27, "select * from t order by a where b": 27, "select * from t order by a group by b": 27, "select * from t limit 1 where b": 24, "select * from t limit 1 order by b": 24, "select * from t limit 1 limit 2": 24, "select * from t limit 1 group by a": 24,
		"select * from t limit - 1": 22, "select * from t limit -1": 22, "select * from t limit ( 1 )": 22, "select * from t limit a": 22, "select * from t limit '1'": 22, "select * from t limit null": 22, "select * from t limit 1 + 1": 24, "select * from t limit 1 , 2": 24, "select * from t limit +1": 22,
		"insert t values ( 1 )": 7, "insert into values ( 1 )": 12, "insert into t ( a ) values ( 1 )": 14, "insert into t values 1": 21, "insert into t values ( )": 23, "insert into t values ( 1 2 )": 25, "insert into t values ( 1 , )": 27, "insert into t values ( 1 ) , ( 2 )": 27, "insert into t values ( 1 ) where a": 27, "insert into t values ( * )": 23, "insert into t values ( 1 as a )": 25, "insert into t select * from u": 14, "insert into t values ( 1 ) ( 2 )": 27,
		"update set a = 1": 7, "update t a = 1": 9, "update t set 1 = a": 13, "update t set a 1": 15, "update t set a == 1": 16, "update t set a <> 1": 15, "update t set a = 1 b = 2": 19, "update t set a = 1 , where b": 21, "update t set ( a ) = 1": 13, "update t set a + 1 = 2": 15, "update t set a = 1 limit 1": 19, "update t set a = 1 order by a": 19, "update t set a = b = c = d": 23, "update t where a": 9,
		"delete t": 7, "delete from where a": 12, "delete * from t": 7, "delete from t limit 1": 14, "delete from t order by a": 14, "delete from t where a group by a": 22, "delete from t , u": 14,
		"begin begin": 6, "begin t": 6, "begin ,": 6, "commit 1": 7, "commit commit": 7, "rollback v": 9, "rollback ( )": 9, "release 1": 8, "release v w": 10, "release v , w": 10, "release view": 8, "release ( v )": 8, "view 'v'": 5, "view v 1": 7, "view v where a": 7, "view * ": 5,
		"explain begin": 8, "explain insert into t values ( 1 )": 8, "explain update t set a = 1": 8, "explain delete from t": 8, "explain explain select * from t": 8, "explain t": 8, "explain commit": 8, "explain release v": 8, "explain view v": 8, "explain ( select * from t )": 8, "explain select * from t begin": 24, "select explain from t": 7,
		"select * from t select * from t": 16, "select 'a' 'b' from t": 11, "select select": 7,
	} {
		refuses(t, s, at, api.ErrSyntax)
		refuses(t, strings.ToUpper(s), at, api.ErrSyntax)
		refuses(t, "\n "+s, at+2, api.ErrSyntax)
		if at < len(s) {
			refuses(t, s+" ", at, api.ErrSyntax)
			refuses(t, s+" , (", at, api.ErrSyntax)
		}
	}
}

func TestPS1Names(t *testing.T) {
	long := strings.Repeat("n", api.MaxName)
	places := []string{"select * from $", "explain select * from $", "select $ from t", "select a as $ from t", "select * from t where $", "select * from t group by $", "select * from t group by a , $", "select * from t order by $", "insert into $ values ( 1 )", "insert into t values ( $ )", "update $ set a = 1", "update t set $ = 1", "update t set a = $", "update t set a = 1 , $ = 1", "update t set a = 1 where $", "delete from $", "delete from t where $", "release $", "view $"}
	for _, p := range places {
		at := strings.Index(p, "$")
		for _, good := range []string{"a", "z", "a1", "a_", "a_b_1", "selects", "t", long, "key1", "ints", "A", "Abc", "LABELS", strings.ToUpper(long)} {
			s := strings.ReplaceAll(p, "$", good)
			parses(t, s)
			x, _, err := parse.Parse(s)
			told, wrong := parse.Print(x)
			if err != nil || wrong != nil || !strings.Contains(told, strings.ToLower(good)) {
				t.Errorf("Parse(%q): %v, printed %q, %v", s, err, told, wrong)
			}
		}
		for _, bad := range []string{long + "n", long + "_", strings.Repeat("n", 1000), "and", "as", "asc", "begin", "bool", "by", "commit", "delete", "desc", "explain", "from", "group", "insert", "int", "into", "is", "key", "limit", "or", "order", "release", "rollback", "select", "set", "table", "text", "update", "values", "view", "where", "Key", "TABLE", "Select"} {
			refuses(t, strings.ReplaceAll(p, "$", bad), at, api.ErrSyntax)
		}
		for _, other := range []string{"count", "sum", "min", "max", "not", "null", "true", "false", "label", "1", "'a'", "*", "(", "-", ",", "="} {
			parses(t, strings.ReplaceAll(p, "$", other))
		}
		parses(t, strings.ReplaceAll(p, "$", "1a"))
		parses(t, strings.ReplaceAll(p, "$", "a b"))
	}
}

func TestPS1Limit(t *testing.T) {
	for s, want := range map[string]int{"0": 0, "00": 0, "1": 1, "0010": 10, "9223372036854775806": math.MaxInt - 1, "9223372036854775807": math.MaxInt} {
		for kind, ahead := range map[int]string{parse.Select: "select * from t limit ", parse.Explain: "explain select * from t limit "} {
			gives(t, ahead+s, parse.Stmt{Kind: kind, Table: "t", Limit: want})
		}
	}
	for _, s := range statements() {
		if !strings.Contains(s.text, "limit") && s.stmt.Limit != -1 {
			t.Errorf("%s: %d", s.text, s.stmt.Limit)
		}
	}
}

// levels are the signs of two, from those that bind the least on.
func levels() [][]string {
	return [][]string{{"or"}, {"and"}, {"=", "<>", "<", "<=", ">", ">="}, {"+", "-", "||"}, {"*", "/", "%"}}
}

func TestPS1EachPair(t *testing.T) {
	a, b, c := col("a"), col("b"), col("c")
	for i, ones := range levels() {
		for j, others := range levels() {
			for _, one := range ones {
				givesExpr(t, "a "+one+" b", on(one, a, b))
				for _, other := range others {
					s := "a " + one + " b " + other + " c"
					switch {
					case i == 2 && j == 2:
						refusesExpr(t, s, 5+len(one), api.ErrSyntax)
					case i >= j:
						givesExpr(t, s, on(other, on(one, a, b), c))
					default:
						givesExpr(t, s, on(one, a, on(other, b, c)))
					}
					givesExpr(t, "( a "+one+" b ) "+other+" c", on(other, on(one, a, b), c))
					givesExpr(t, "a "+one+" ( b "+other+" c )", on(one, a, on(other, b, c)))
				}
			}
		}
	}
}

func TestPS1Expressions(t *testing.T) {
	for s, want := range map[string]string{
		"a": "a", "A": "a", "A1_b": "a1_b", "1": "1", "007": "7", "'x'": "'x'", "''": "''", "'it''s'": "'it''s'", "''''": "''''", "null": "NULL", "Null": "NULL", "TRUE": "TRUE", "true": "TRUE", "False": "FALSE", "label": "LABEL", "LaBeL": "LABEL",
		"9223372036854775807": "9223372036854775807", "-9223372036854775807": "(-9223372036854775807)", "0": "0", "-0": "(-0)", "-1": "(-1)", "- 1": "(-1)", "--1": "(-(-1))", "- - - a": "(-(-(-a)))", "-'x'": "(-'x')", "-null": "(-NULL)", "-(a)": "(-a)", "-(-1)": "(-(-1))", "-count(*)": "(-COUNT(*))", "-label": "(-LABEL)",
		"a - b - c": "((a - b) - c)", "a - b + c - d": "(((a - b) + c) - d)", "a+b||c+d": "(((a + b) || c) + d)", "a / b / c": "((a / b) / c)", "a * b % c / d": "(((a * b) % c) / d)", "a or b or c": "((a OR b) OR c)", "a and b and c": "((a AND b) AND c)", "a - (b - c)": "(a - (b - c))", "a or (b or c)": "(a OR (b OR c))",
		"a-1": "(a - 1)", "a - -1": "(a - (-1))", "a--1": "(a - (-1))", "a---1": "(a - (-(-1)))", "-a-b": "((-a) - b)", "-a*b": "((-a) * b)", "a*-b": "(a * (-b))", "a/-b/-c": "((a / (-b)) / (-c))", "-a = -b": "((-a) = (-b))", "1-1": "(1 - 1)",
		"a+b*c": "(a + (b * c))", "a*b+c": "((a * b) + c)", "a*b+c*d": "((a * b) + (c * d))", "(a+b)*c": "((a + b) * c)", "a*(b+c)": "(a * (b + c))", "a||b||'c'": "((a || b) || 'c')", "a||b*c": "(a || (b * c))",
		"a=b": "(a = b)", "a<>b": "(a <> b)", "a<b": "(a < b)", "a<=b": "(a <= b)", "a>b": "(a > b)", "a>=b": "(a >= b)", "a=(b=c)": "(a = (b = c))", "(a=b)=c": "((a = b) = c)", "a+1<b*2": "((a + 1) < (b * 2))",
		"a is null": "(a IS NULL)", "a IS NOT NULL": "(a IS NOT NULL)", "a + b is null": "((a + b) IS NULL)", "a || b is not null": "((a || b) IS NOT NULL)", "-a is null": "((-a) IS NULL)", "null is null": "(NULL IS NULL)", "(a is null) is null": "((a IS NULL) IS NULL)", "(a is not null) = true": "((a IS NOT NULL) = TRUE)", "(a = b) is null": "((a = b) IS NULL)", "not a is null": "(NOT (a IS NULL))", "a is null and b is not null": "((a IS NULL) AND (b IS NOT NULL))", "a is null or b": "((a IS NULL) OR b)",
		"not a": "(NOT a)", "not not a": "(NOT (NOT a))", "NOT Not not a": "(NOT (NOT (NOT a)))", "not a = b": "(NOT (a = b))", "not a and b": "((NOT a) AND b)", "not a or b": "((NOT a) OR b)", "not (a and b)": "(NOT (a AND b))", "a and not b": "(a AND (NOT b))", "a or not b and c": "(a OR ((NOT b) AND c))", "not a + b": "(NOT (a + b))", "(not a) + b": "((NOT a) + b)", "not -a": "(NOT (-a))", "a = (not b)": "(a = (NOT b))", "-(not a)": "(-(NOT a))",
		"a or b and c": "(a OR (b AND c))", "a and b or c": "((a AND b) OR c)", "a and b or c and d": "((a AND b) OR (c AND d))", "(a or b) and c": "((a OR b) AND c)", "a = 1 or b = 2 and c = 3": "((a = 1) OR ((b = 2) AND (c = 3)))",
		"(a)": "a", "((a))": "a", "(((1)))": "1", "((a)+(b))": "(a + b)", "(((a))-((b)-(c)))": "(a - (b - c))", "(not ((a)))": "(NOT a)", "('a')": "'a'", "((null))is null": "(NULL IS NULL)",
		"count(*)": "COUNT(*)", "COUNT ( * )": "COUNT(*)", "count(a)": "COUNT(a)", "count((a))": "COUNT(a)", "sum(a)": "SUM(a)", "min(a)": "MIN(a)", "max(a)": "MAX(a)", "Sum ( a + b )": "SUM((a + b))", "min(a or b)": "MIN((a OR b))", "max(not a)": "MAX((NOT a))", "count(a is null)": "COUNT((a IS NULL))", "count(-a)": "COUNT((-a))", "sum(count(*))": "SUM(COUNT(*))", "sum(sum(sum(a)))": "SUM(SUM(SUM(a)))", "count(1)": "COUNT(1)", "count(null)": "COUNT(NULL)", "count(label)": "COUNT(LABEL)", "count(*)*count(*)": "(COUNT(*) * COUNT(*))", "count(a*b)": "COUNT((a * b))", "sum(a)/count(a)": "(SUM(a) / COUNT(a))", "max(a)-min(a)": "(MAX(a) - MIN(a))",
		"1+'x'": "(1 + 'x')", "true+false": "(TRUE + FALSE)", "label||label": "(LABEL || LABEL)", "1 and 2": "(1 AND 2)", "label='0'": "(LABEL = '0')",
	} {
		readsAs(t, s, want)
		readsAs(t, " ( "+s+" ) ", want)
		checksExpr(t, s)
		checksExpr(t, "x + "+s)
		checksExpr(t, s+" is null")
	}
}

func TestPS1ExpressionPlaces(t *testing.T) {
	for s, at := range map[string]int{
		"a b": 2, "a 1": 2, "1 a": 2, "1a": 1, "a 'x'": 2, "'x' 'y'": 4, "a ( b )": 2, "a (": 2, "1 2": 2, "a ,": 2, "a , b": 2, "a as b": 2, "a )": 2, "( a ) )": 6, "a asc": 2, "a from t": 2, "a null": 2, "null null": 5, "a not": 2, "a not b": 2, "a label": 2, "label a": 6,
		"+": 0, "+ a": 0, "* a": 0, "*": 0, ")": 0, ",": 0, "=": 0, "= a": 0, "or": 0, "or a": 0, "and a": 0, "is null": 0, "select": 0, "key": 0, "int": 0, "text": 0, "bool": 0, "table": 0, "|| a": 0, "< a": 0, "% a": 0, "from": 0,
		"a +": 3, "a + ": 4, "a + + b": 4, "a + * b": 4, "a * / b": 4, "a = = b": 4, "a = < b": 4, "a < > b": 4, "a or": 4, "a or or b": 5, "a and and b": 6, "a or and b": 5, "a ||": 4, "a = or b": 4, "a + )": 4, "( a + )": 6, "a - or": 4,
		"a = b = c": 6, "a < b < c": 6, "a <> b >= c": 7, "a = b is null": 6, "a = b is not null": 6, "a is null = b": 10, "a is null is null": 10, "a is not null is null": 14, "a is null is not null": 10, "a is null + 1": 10, "a is null * 2": 10, "a is null - 1": 10, "a is null not": 10, "a is null null": 10, "a = b + c = d": 10, "not a = b = c": 10,
		"a is": 4, "a is a": 5, "a is 1": 5, "a is true": 5, "a is not": 8, "a is not true": 9, "a is not not null": 9, "a is = b": 5, "a is ( null )": 5, "is": 0, "a is is null": 5, "a isnull": 2, "a is 'null'": 5,
		"not": 3, "not not": 7, "not or a": 4, "not )": 4, "a + not b": 4, "a = not b": 4, "- not a": 2, "a * not b": 4, "a || not b": 5, "not is null": 4, "-": 1, "- -": 3, "- )": 2, "- or": 2, "a - - - ": 8, "- * a": 2, "- + a": 2,
		"(": 1, "( (": 3, "()": 1, "( )": 2, "( a": 3, "( a b )": 4, "( a , b )": 4, "( ( a )": 7, "( * )": 2, "( a or )": 7, "( a = b = c )": 8,
		"count": 5, "count a": 6, "count *": 6, "count (": 7, "count ( )": 8, "count ( * ": 10, "count ( * , a )": 10, "count ( a": 9, "count ( a , b )": 10, "count ( a *": 11, "count ( * a )": 10, "count ( * ) a": 12, "count ( * + 1 )": 10, "count ( a * )": 12, "count ( ( * ) )": 10, "count ( - * )": 10, "count ( a b )": 10, "count count": 6, "count ) ": 6, "count ( a is )": 13,
		"sum": 3, "sum (": 5, "sum ( )": 6, "sum ( * )": 6, "sum a": 4, "sum ( a , b )": 8, "min ( * )": 6, "min ( )": 6, "min": 3, "max ( * )": 6, "max ( )": 6, "max": 3, "max ( a": 7, "min a": 4, "sum sum ( a )": 4, "label ( a )": 6, "null ( )": 5, "true ( a )": 5, "a ( * )": 2,
		"select * from t": 0, "where a": 0, "a where b": 2, "a order by b": 2, "a limit 1": 2,
		strings.Repeat("n", api.MaxName+1): 0, "a + " + strings.Repeat("n", api.MaxName+1): 4, "sum ( key )": 6,
	} {
		refusesExpr(t, s, at, api.ErrSyntax)
		refusesExpr(t, strings.ToUpper(s), at, api.ErrSyntax)
		refusesExpr(t, " "+s, at+1, api.ErrSyntax)
		parses(t, "select a , "+s)
	}
}

// A text may be a token, and yet too long for a value: then no expression goes on with it.
func TestPS1LongText(t *testing.T) {
	most := strings.Repeat("x", api.MaxText)
	givesExpr(t, "'"+most+"'", text(most))
	givesExpr(t, "a||'"+most+"'", on("||", col("a"), text(most)))
	quotes := strings.Repeat("'", api.MaxText)
	givesExpr(t, "'"+quotes+quotes+"'", text(quotes))
	refusesExpr(t, "'"+most+"x'", 0, api.ErrSyntax)
	refusesExpr(t, "a || '"+most+"x' )", 5, api.ErrSyntax)
	refusesExpr(t, "'"+quotes+quotes+"'''", 0, api.ErrSyntax)
	refuses(t, "insert into t values ( 1 , '"+most+"x' )", 27, api.ErrSyntax)
}

// deeper are the ways to go one deeper: with $ for what lies below.
func deeper() []string {
	out := []string{"- $", "not $", "( $ ) is null", "( $ ) is not null", "count ( $ )", "sum ( $ )", "min ( $ )", "max ( $ )"}
	for _, level := range levels() {
		for _, sign := range level {
			out = append(out, "( $ ) "+sign+" a", "a "+sign+" ( $ )", "1 "+sign+" - ( $ )", "( $ ) "+sign+" ( $ )")
		}
	}
	return out
}

// nested is a text that goes deeper so often by these ways, one after the other.
func nested(times int, ways ...string) string {
	s := "a"
	for i := range times {
		way := ways[i%len(ways)]
		if strings.Count(way, "$") > 1 { // one side alone, so that it does not double
			way = strings.Replace(way, "$", "b", 1)
		}
		s = strings.Replace(way, "$", "( "+s+" )", 1)
	}
	return s
}

func TestPS1Depth(t *testing.T) {
	for _, way := range deeper() {
		each := 1
		if strings.Contains(way, "1 ") {
			each = 2 // it is below - as well
		}
		for _, n := range []int{0, 1, 14, 15, 16, 17, 30, 31, 32, 33, 64, 65} {
			s := nested(n, way)
			x, _, err := readExpr(s)
			switch {
			case n*each+1 <= api.MaxDepth:
				givesExpr(t, s, x)
				if err != nil || parse.Depth(x) != n*each+1 {
					t.Errorf("%q: %d deep, %v", s, parse.Depth(x), err)
				}
				parses(t, "select * from t where "+s)
			default:
				refusesExpr(t, s, 0, api.ErrDepth)
				for _, where := range []string{"select $ from t", "select a , $ as b from t", "select $ , a from t", "select $ from t where a order by b", "update t set a = $ , b = 1 where c", "select * from t where $", "select * from t order by a , $ desc limit 1", "explain select $ from t", "insert into t values ( 1 , $ )", "update t set a = $", "update t set a = 1 where $", "delete from t where $"} {
					refuses(t, strings.Replace(where, "$", s, 1), 0, api.ErrDepth)
				}
				// What is wrong in the grammar is told ahead, wherever it stands.
				refusesExpr(t, s+" )", len(s)+1, api.ErrSyntax)
				refusesExpr(t, s+" or", len(s)+3, api.ErrSyntax)
				refusesExpr(t, "( "+s, len(s)+2, api.ErrSyntax)
				refuses(t, "select "+s, len(s)+7, api.ErrSyntax)
				refuses(t, "delete from t where "+s+" limit 1", len(s)+21, api.ErrSyntax)
				refuses(t, "update t set a = "+s+" , b", len(s)+21, api.ErrSyntax)
			}
		}
	}
	// Rows go deeper on their left side.
	for _, level := range levels() {
		for _, sign := range level {
			if slices.Contains(levels()[2], sign) { // they stand in no rows
				continue
			}
			row := func(n int) string { return strings.Repeat("a "+sign+" ", n-1) + "a" }
			checksExpr(t, row(api.MaxDepth))
			refusesExpr(t, row(api.MaxDepth+1), 0, api.ErrDepth)
			refusesExpr(t, row(api.MaxDepth+1)+" b", len(row(api.MaxDepth+1))+1, api.ErrSyntax)
			x, _, err := parse.ParseExpr(row(api.MaxDepth))
			if err != nil || parse.Depth(x) != api.MaxDepth {
				t.Errorf("a row of %d %s: %d, %v", api.MaxDepth, sign, parse.Depth(x), err)
			}
		}
	}
	refusesExpr(t, strings.Repeat("-", api.MaxSQL-1)+"a", 0, api.ErrDepth)
	refusesExpr(t, strings.Repeat("-", api.MaxSQL), api.MaxSQL, api.ErrSyntax)
	refusesExpr(t, strings.Repeat("not ", api.MaxSQL/4-1)+"a", 0, api.ErrDepth)
	refusesExpr(t, strings.Repeat("a+", api.MaxSQL/2-1)+"a", 0, api.ErrDepth)
	refusesExpr(t, strings.Repeat("sum(", 10000)+"a"+strings.Repeat(")", 10000), 0, api.ErrDepth)
}

// Brackets are not deeper for themselves, however many they are.
func TestPS1Brackets(t *testing.T) {
	for _, n := range []int{0, 1, 2, api.MaxDepth - 1, api.MaxDepth, api.MaxDepth + 1, 1000, api.MaxSQL/2 - 1} {
		open, shut := strings.Repeat("(", n), strings.Repeat(")", n)
		givesExpr(t, open+"a"+shut, col("a"))
		refusesExpr(t, open, n, api.ErrSyntax)
		refusesExpr(t, open+"a"+shut+")", 2*n+1, api.ErrSyntax)
		refusesExpr(t, open+shut, n, api.ErrSyntax)
		refusesExpr(t, "("+open+"a"+shut, 2*n+2, api.ErrSyntax)
		refusesExpr(t, open+"a;", n+1, api.ErrForm)
	}
	refusesExpr(t, strings.Repeat("(", api.MaxSQL), api.MaxSQL, api.ErrSyntax)
	refuses(t, strings.Repeat("(", api.MaxSQL), 0, api.ErrSyntax)
	refuses(t, "delete from t where "+strings.Repeat("(", 60000), 60020, api.ErrSyntax)
	// Around each part, and beside what is just deep enough.
	deepest := nested(api.MaxDepth-1, "- $", "( $ ) + a", "not $")
	x, at, err := parse.ParseExpr(strings.Repeat("(", 5000) + deepest + strings.Repeat(")", 5000))
	if err != nil || at != len(deepest)+10000 || parse.Depth(x) != api.MaxDepth {
		t.Errorf("%d, %d, %v", parse.Depth(x), at, err)
	}
	givesExpr(t, "(((((a)+((b)))*(c))=((1)))or((not(d))))", on("or", on("=", on("*", on("+", col("a"), col("b")), col("c")), num(1)), on("not", col("d"))))
}

// All rows of tokens that the grammar can begin with, up to a length: each is whole or too short, and goes on with no other token.
func TestPS1AllExpressions(t *testing.T) {
	words := []string{"a", "1", "'x'", "null", "label", "-", "(", ")", "*", "+", "=", "is", "not", "and", "or", "count", "sum", ",", "key"}
	all(t, "or", words, 5, func(s string) (int, error) {
		_, at, err := parse.ParseExpr(s)
		return at, err
	}, func(s string) { checksExpr(t, s) })
}

func TestPS1AllStatements(t *testing.T) {
	words := []string{"select", "insert", "update", "delete", "begin", "commit", "rollback", "release", "view", "explain", "from", "into", "values", "set", "where", "group", "by", "order", "asc", "desc", "limit", "as", "t", "1", "'x'", "(", ")", ",", "*", "-", "=", "count", "key"}
	all(t, "statement", words, 8, func(s string) (int, error) {
		_, at, err := parse.Parse(s)
		return at, err
	}, func(s string) { parses(t, s) })
}

// all goes on with each word from each begin that the grammar has, and asks each such text.
func all(t *testing.T, goal string, words []string, most int, ask func(string) (int, error), whole func(string)) {
	t.Helper()
	w := newWalk(goal)
	var tokens []lex.Token
	for _, s := range words {
		l, _, err := lex.Lex(s)
		if err != nil {
			t.Fatal(err)
		}
		tokens = append(tokens, l[0])
	}
	var count int
	var from func(s string, n int)
	from = func(s string, n int) {
		count++
		if w.whole() {
			whole(s)
		} else if at, err := ask(s); at != len(s) || err != api.ErrSyntax {
			t.Errorf("%q, too short: %d, %v", s, at, err)
		}
		if n == 0 {
			return
		}
		for i, word := range words {
			longer := strings.TrimPrefix(s+" "+word, " ")
			if w.step(tokens[i]) {
				from(longer, n-1)
				w.back()
			} else if at, err := ask(longer); at != len(longer)-len(word) || err != api.ErrSyntax {
				t.Errorf("%q, with a word that can't stand there: %d, %v", longer, at, err)
			}
		}
	}
	from("", most)
	t.Logf("%d begins", count)
}

// Long statements, as they are and with a fault somewhere.
func TestPS1Random(t *testing.T) {
	r := rand.New(rand.NewSource(19))
	for range 3000 {
		x := anyStmt(r)
		s, _ := tell(x)
		words := strings.Fields(loose(s))
		gives(t, strings.Join(words, " "), x)
		for range 5 {
			changed := slices.Clone(words)
			switch i := r.Intn(len(words)); r.Intn(4) {
			case 0:
				changed = slices.Delete(changed, i, i+1)
			case 1:
				changed[i] = words[r.Intn(len(words))]
			case 2:
				changed = slices.Insert(changed, i, words[r.Intn(len(words))])
			case 3:
				changed = changed[:i]
			}
			parses(t, strings.Join(changed, " "))
		}
	}
}

// loose is a text with blanks around each bracket and comma outside of its texts, which have no such byte here.
func loose(s string) string {
	for _, sign := range []string{"(", ")", ",", "*", "-"} {
		s = strings.ReplaceAll(s, sign, " "+sign+" ")
	}
	return s
}

// anyExpr is an expression, not deeper than that.
func anyExpr(r *rand.Rand, depth int) parse.Expr {
	if depth <= 1 || r.Intn(4) == 0 {
		leaves := []parse.Expr{col("a"), col("b_1"), num(0), num(7), num(math.MaxInt), text(""), text("x"), text("O''K"), null(), truth(true), truth(false), on("label"), on("rows")}
		return leaves[r.Intn(len(leaves))]
	}
	ones := []string{"neg", "not", "isnull", "notnull", "count", "sum", "min", "max"}
	if r.Intn(3) == 0 {
		return on(ones[r.Intn(len(ones))], anyExpr(r, depth-1))
	}
	twos := append(signs(), "and", "or")
	return on(twos[r.Intn(len(twos))], anyExpr(r, depth-1), anyExpr(r, depth-1))
}

// anyStmt is a statement of any kind.
func anyStmt(r *rand.Rand) parse.Stmt {
	names := []string{"t", "a", "b_1", "c", strings.Repeat("n", api.MaxName)}
	name := func() string { return names[r.Intn(len(names))] }
	expr := func() parse.Expr { return anyExpr(r, 1+r.Intn(4)) }
	x := parse.Stmt{Kind: 1 + r.Intn(10), Limit: -1}
	if x.Kind < parse.Begin || x.Kind > parse.Rollback {
		x.Table = name()
	}
	query := x.Kind == parse.Select || x.Kind == parse.Explain
	if query || x.Kind == parse.Insert || x.Kind == parse.Update {
		for n := r.Intn(4); n > 0 || !query && len(x.Items) == 0; n-- {
			i := parse.Item{Expr: expr()}
			if x.Kind == parse.Update || query && r.Intn(2) == 0 {
				i.As = name()
			}
			x.Items = append(x.Items, i)
		}
	}
	if (query || x.Kind == parse.Update || x.Kind == parse.Delete) && r.Intn(2) == 0 {
		x.Where = []parse.Expr{expr()}
	}
	if query {
		for range r.Intn(3) {
			x.Group = append(x.Group, name())
		}
		for range r.Intn(3) {
			x.Order = append(x.Order, parse.Sort{Expr: expr(), Desc: r.Intn(2) == 0})
		}
		x.Limit = []int{-1, 0, 1, 10, math.MaxInt}[r.Intn(5)]
	}
	return x
}

func TestPS2EachOp(t *testing.T) {
	a, b := col("a"), col("b")
	for _, c := range []struct {
		x    parse.Expr
		want string
	}{
		{num(0), "0"}, {num(10), "10"}, {num(math.MaxInt), "9223372036854775807"}, {text(""), "''"}, {text("it's"), "'it''s'"}, {text("A b"), "'A b'"}, {null(), "NULL"}, {truth(true), "TRUE"}, {truth(false), "FALSE"},
		{a, "a"}, {col("a_1"), "a_1"}, {on("label"), "LABEL"}, {on("rows"), "COUNT(*)"},
		{on("neg", a), "(-a)"}, {on("neg", num(1)), "(-1)"}, {on("neg", on("neg", num(1))), "(-(-1))"}, {on("not", a), "(NOT a)"}, {on("isnull", a), "(a IS NULL)"}, {on("notnull", a), "(a IS NOT NULL)"},
		{on("count", a), "COUNT(a)"}, {on("sum", a), "SUM(a)"}, {on("min", a), "MIN(a)"}, {on("max", a), "MAX(a)"}, {on("count", on("rows")), "COUNT(COUNT(*))"}, {on("count", on("+", a, b)), "COUNT((a + b))"},
		{on("and", a, b), "(a AND b)"}, {on("or", a, b), "(a OR b)"}, {on("=", a, b), "(a = b)"}, {on("<>", a, b), "(a <> b)"}, {on("<", a, b), "(a < b)"}, {on("<=", a, b), "(a <= b)"}, {on(">", a, b), "(a > b)"}, {on(">=", a, b), "(a >= b)"},
		{on("+", a, b), "(a + b)"}, {on("-", a, b), "(a - b)"}, {on("||", a, b), "(a || b)"}, {on("*", a, b), "(a * b)"}, {on("/", a, b), "(a / b)"}, {on("%", a, b), "(a % b)"},
		{on("-", on("-", a, b), a), "((a - b) - a)"}, {on("-", a, on("-", b, a)), "(a - (b - a))"}, {on("=", on("=", a, b), on("isnull", a)), "((a = b) = (a IS NULL))"},
	} {
		if s, err := parse.PrintExpr(c.x); s != c.want || err != nil {
			t.Errorf("PrintExpr(%v): %q, %v, not %q", c.x, s, err, c.want)
		}
		printsExpr(t, c.x)
	}
}

// ops are all Ops, and texts that are none.
func ops() []string {
	return append(signs(), "and", "or", "not", "neg", "isnull", "notnull", "count", "sum", "min", "max", "rows", "label", "lit", "col", "", "AND", "Or", "NOT", "LABEL", "COUNT", "none", "is", "!=", "<<", "(", ",", "null", "a")
}

// Each Op, with each count of Args, with each Name and each Value.
func TestPS2WhatMayBe(t *testing.T) {
	values := []api.Value{
		{}, {Int: 1}, {Text: "x"}, {Bool: true},
		{Kind: api.KindInt}, {Kind: api.KindInt, Int: 5}, {Kind: api.KindInt, Int: -1}, {Kind: api.KindInt, Int: math.MinInt}, {Kind: api.KindInt, Text: "x"}, {Kind: api.KindInt, Bool: true},
		{Kind: api.KindText}, {Kind: api.KindText, Text: "x"}, {Kind: api.KindText, Text: "\x1f"}, {Kind: api.KindText, Text: "\x7f"}, {Kind: api.KindText, Text: "é"}, {Kind: api.KindText, Int: -1}, {Kind: api.KindText, Text: strings.Repeat("x", api.MaxText)}, {Kind: api.KindText, Text: strings.Repeat("x", api.MaxText+1)},
		{Kind: api.KindBool}, {Kind: api.KindBool, Bool: true}, {Kind: api.KindBool, Int: 1}, {Kind: 4}, {Kind: -1},
	}
	args := []parse.Expr{col("a"), num(1), on("label"), num(3), {}, num(-1), col("")}
	for _, op := range ops() {
		for _, name := range []string{"", "a", "A", "select", "1a", "a b", strings.Repeat("n", api.MaxName), strings.Repeat("n", api.MaxName+1)} {
			for _, v := range values {
				for n := range len(args) + 1 {
					x := parse.Expr{Op: op, Name: name, Value: v, Args: args[:n]}
					printsExpr(t, x)
					if n > 0 && n < 3 { // with one that may not be among its Args
						x.Args = append(slices.Clone(args[:n-1]), args[4+n])
						printsExpr(t, x)
					}
				}
			}
		}
	}
	for _, x := range []parse.Expr{{}, on("none"), num(-1), on("neg"), on("neg", col("a"), col("b")), on("+", col("a")), on("and"), on("or", col("a"), col("b"), col("c")), on("rows", col("a")), on("label", col("a")), on("count"), col(""), col("A"), col("order"), {Op: "label", Name: "a"}, {Op: "lit", Name: "a"}, {Op: "col", Name: "a", Value: api.Value{Kind: api.KindInt}}, {Op: "rows", Value: api.Value{Kind: api.KindBool}}, on("not", on("not", on("not", on("")))), on("AND", col("a"), col("b"))} {
		if s, err := parse.PrintExpr(x); s != "" || err != api.ErrSyntax {
			t.Errorf("PrintExpr(%v): %q, %v", x, s, err)
		}
	}
}

// sunk is an expression below so many others of these Ops, one after the other; it is at the place side of two.
func sunk(x parse.Expr, times, side int, ops ...string) parse.Expr {
	for i := range times {
		op := ops[i%len(ops)]
		f, _ := form(op)
		switch {
		case strings.Count(f, "$") == 1:
			x = on(op, x)
		case side == 0:
			x = on(op, x, num(1))
		default:
			x = on(op, num(1), x)
		}
	}
	return x
}

func TestPS2Depth(t *testing.T) {
	all := append(signs(), "and", "or", "not", "neg", "isnull", "notnull", "count", "sum", "min", "max")
	for _, ops := range append([][]string{all}, slices.Collect(slices.Chunk(all, 1))...) {
		for side := range 2 {
			for _, leaf := range []parse.Expr{col("a"), num(1), on("rows"), on("label")} {
				just, over := sunk(leaf, api.MaxDepth-1, side, ops...), sunk(leaf, api.MaxDepth, side, ops...)
				want, _ := tellExpr(just)
				if s, err := parse.PrintExpr(just); s != want || err != nil {
					t.Errorf("just deep enough: %q, %v, not %q", s, err, want)
				}
				if s, err := parse.PrintExpr(over); s != "" || err != api.ErrDepth {
					t.Errorf("one too deep: %q, %v", s, err)
				}
			}
			// What may not be is told ahead, also where it lies deeper.
			for n := range 2 * api.MaxDepth {
				x := sunk(num(-1), n, side, ops...)
				if s, err := parse.PrintExpr(x); s != "" || err != api.ErrSyntax {
					t.Errorf("-1 below %d others: %q, %v", n, s, err)
				}
			}
		}
	}
	for _, x := range []parse.Expr{
		on("+", sunk(col("a"), 100, 0, "neg"), num(-1)), on("+", num(-1), sunk(col("a"), 100, 0, "neg")),
		on("none", sunk(col("a"), 100, 0, "neg")), {Op: "neg", Name: "a", Args: []parse.Expr{sunk(col("a"), 100, 0, "neg")}},
	} {
		if s, err := parse.PrintExpr(x); s != "" || err != api.ErrSyntax {
			t.Errorf("neither may be nor is deep enough: %q, %v", s, err)
		}
	}
	for _, n := range []int{1000, 1 << 16} {
		if s, err := parse.PrintExpr(sunk(col("a"), n, 0, "neg")); s != "" || err != api.ErrDepth {
			t.Errorf("%d deep: %q, %v", n, s, err)
		}
		if s, err := parse.PrintExpr(sunk(col("A"), n, 0, "neg")); s != "" || err != api.ErrSyntax {
			t.Errorf("%d deep, and no name: %q, %v", n, s, err)
		}
	}
}

func TestPS2Print(t *testing.T) {
	a := col("a")
	for _, c := range []struct{ from, want string }{
		{"select * from t", "SELECT * FROM t"},
		{"select a from t", "SELECT a FROM t"},
		{"select a,b as c,1+2 from T where a=1 and b group by a,b order by a asc,b desc,c limit 5", "SELECT a, b AS c, (1 + 2) FROM t WHERE ((a = 1) AND b) GROUP BY a, b ORDER BY a, b DESC, c LIMIT 5"},
		{"select count(*) from t limit 0", "SELECT COUNT(*) FROM t LIMIT 0"},
		{"explain select a as b from t order by -a", "EXPLAIN SELECT a AS b FROM t ORDER BY (-a)"},
		{"insert into t values(1)", "INSERT INTO t VALUES (1)"},
		{"insert into t values(1,'it''s',null,-2,true)", "INSERT INTO t VALUES (1, 'it''s', NULL, (-2), TRUE)"},
		{"update t set a=1", "UPDATE t SET a = 1"},
		{"update t set a=a+1,b=a=b where not a", "UPDATE t SET a = (a + 1), b = (a = b) WHERE (NOT a)"},
		{"delete from t", "DELETE FROM t"},
		{"delete from t where a is null", "DELETE FROM t WHERE (a IS NULL)"},
		{"begin", "BEGIN"}, {"commit", "COMMIT"}, {"rollback", "ROLLBACK"}, {"release v", "RELEASE v"}, {"view V", "VIEW v"},
	} {
		x, _, err := parse.Parse(c.from)
		if s, wrong := parse.Print(x); err != nil || s != c.want || wrong != nil {
			t.Errorf("Print of %q: %v, %q, %v, not %q", c.from, err, s, wrong, c.want)
		}
	}
	for _, s := range statements() {
		prints(t, s.stmt)
	}
	for _, x := range []parse.Stmt{
		{}, {Limit: -1}, {Kind: 11, Table: "t", Limit: -1}, {Kind: -1, Limit: -1}, {Kind: parse.Select, Limit: -1}, {Kind: parse.Select, Table: "T", Limit: -1}, {Kind: parse.Select, Table: "t", Limit: -2},
		{Kind: parse.Begin}, {Kind: parse.Begin, Table: "t", Limit: -1}, {Kind: parse.Insert, Table: "t", Limit: -1}, {Kind: parse.Insert, Table: "t", Items: []parse.Item{as(a, "b")}, Limit: -1}, {Kind: parse.Insert, Table: "t", Items: items(a)},
		{Kind: parse.Update, Table: "t", Limit: -1}, {Kind: parse.Update, Table: "t", Items: items(a), Limit: -1}, {Kind: parse.Select, Table: "t", Where: []parse.Expr{a, a}, Limit: -1}, {Kind: parse.Delete, Table: "t", Where: []parse.Expr{a, a}, Limit: -1},
		{Kind: parse.Release, Limit: -1}, {Kind: parse.View, Table: "view", Limit: -1}, {Kind: parse.Select, Table: "t", Group: []string{""}, Limit: -1}, {Kind: parse.Select, Table: "t", Order: sorts(num(-1)), Limit: -1}, {Kind: parse.Select, Table: "t", Items: []parse.Item{as(a, "B")}, Limit: -1},
	} {
		if s, err := parse.Print(x); s != "" || err != api.ErrSyntax {
			t.Errorf("Print(%v): %q, %v", x, s, err)
		}
	}
}

// Each kind with each field as it may be and as it may not.
func TestPS2EachField(t *testing.T) {
	a, bad, sunken := col("a"), num(-1), sunk(col("a"), api.MaxDepth, 0, "neg")
	for kind := -1; kind <= 12; kind++ {
		for _, name := range []string{"", "t", "T", "select", strings.Repeat("n", api.MaxName+1)} {
			for _, l := range [][]parse.Item{nil, items(a), items(a, num(1)), {as(a, "b")}, {as(a, "b"), as(num(1), "c")}, {as(a, "b"), as(num(1), "")}, {as(a, "B")}, {as(a, "order")}, items(bad), {as(bad, "b")}, items(sunken), {as(sunken, "b"), as(a, "b")}} {
				for _, w := range [][]parse.Expr{nil, {a}, {a, a}, {bad}, {sunken}} {
					for _, g := range [][]string{nil, {"a"}, {"a", "b"}, {""}, {"a", "B"}, {"key"}} {
						for _, o := range [][]parse.Sort{nil, sorts(a), {{Expr: a}, down(num(1))}, sorts(bad), {down(sunken)}} {
							for _, limit := range []int{-2, -1, 0, 7, math.MinInt, math.MaxInt} {
								prints(t, parse.Stmt{Kind: kind, Table: name, Items: l, Where: w, Group: g, Order: o, Limit: limit})
							}
						}
					}
				}
			}
		}
	}
}

func TestPS2StatementDepth(t *testing.T) {
	just, over := sunk(col("a"), api.MaxDepth-1, 1, "+", "not"), sunk(col("a"), api.MaxDepth, 1, "+", "not")
	for _, s := range statements() {
		for i := range tops(s.stmt) {
			for _, e := range []parse.Expr{just, over, on("+", over, on("none"))} {
				x := withTop(s.stmt, i, e)
				prints(t, x)
				y := withTop(x, (i+1)%len(tops(x)), on("none"))
				if s, err := parse.Print(y); s != "" || err != api.ErrSyntax {
					t.Errorf("Print(%v): %q, %v", y, s, err)
				}
			}
			if s, err := parse.Print(withTop(s.stmt, i, over)); s != "" || err != api.ErrDepth {
				t.Errorf("too deep: %q, %v", s, err)
			}
		}
	}
}

// withTop is a statement with another expression at a place of tops.
func withTop(x parse.Stmt, i int, e parse.Expr) parse.Stmt {
	x = copied(x)
	switch where, shown := len(x.Where), len(x.Items); {
	case i < where:
		x.Where[i] = e
	case i < where+shown:
		x.Items[i-where].Expr = e
	default:
		x.Order[i-where-shown].Expr = e
	}
	return x
}

// copied is a statement that shares nothing with x.
func copied(x parse.Stmt) parse.Stmt {
	x.Items, x.Where, x.Group, x.Order = slices.Clone(x.Items), slices.Clone(x.Where), slices.Clone(x.Group), slices.Clone(x.Order)
	for i := range x.Items {
		x.Items[i].Expr = copiedExpr(x.Items[i].Expr)
	}
	for i := range x.Where {
		x.Where[i] = copiedExpr(x.Where[i])
	}
	for i := range x.Order {
		x.Order[i].Expr = copiedExpr(x.Order[i].Expr)
	}
	return x
}

func copiedExpr(x parse.Expr) parse.Expr {
	x.Args = slices.Clone(x.Args)
	for i := range x.Args {
		x.Args[i] = copiedExpr(x.Args[i])
	}
	return x
}

func TestPS3SameExpr(t *testing.T) {
	a, b := col("a"), col("b")
	l := []parse.Expr{
		{}, a, b, col(""), col("A"), num(0), num(1), num(-1), text("a"), text("A"), text(""), null(), truth(true), truth(false),
		lit(api.Value{Int: 1}), lit(api.Value{Text: "a"}), lit(api.Value{Bool: true}), lit(api.Value{Kind: 9}), {Op: "lit", Name: "a"}, {Op: "col", Name: "a", Value: api.Value{Kind: 1}}, {Name: "a"}, {Value: api.Value{Int: 1}},
		on("label"), on("LABEL"), on("rows"), on("neg"), on("neg", a), on("neg", b), on("not", a), on("+", a, b), on("+", b, a), on("+", a, a), on("-", a, b), on("+", a), on("+", a, b, b), on("", a), on("", a, b),
		on("+", on("+", a, b), a), on("+", a, on("+", b, a)), on("+", on("+", a, b), b), on("neg", on("neg", a)), on("neg", on("neg", b)), sunk(a, 100, 0, "neg"), sunk(b, 100, 0, "neg"), sunk(a, 101, 0, "neg"),
	}
	for i, x := range l {
		for j, y := range l {
			if got := parse.SameExpr(x, copiedExpr(y)); got != (i == j) {
				t.Errorf("SameExpr(%v, %v): %v", x, y, got)
			}
			one, other := parse.Stmt{Kind: 1, Where: []parse.Expr{x}}, parse.Stmt{Kind: 1, Where: []parse.Expr{y}}
			if got := parse.Same(one, other); got != (i == j) {
				t.Errorf("Same(%v, %v): %v", one, other, got)
			}
		}
	}
	if !parse.SameExpr(parse.Expr{Op: "label"}, parse.Expr{Op: "label", Args: []parse.Expr{}}) {
		t.Error("nil is not the empty list")
	}
}

func TestPS3Same(t *testing.T) {
	base := parse.Stmt{Kind: 1, Table: "t", Items: []parse.Item{as(col("a"), "x"), as(col("b"), "")}, Where: []parse.Expr{col("a"), col("b")}, Group: []string{"a", "b"}, Order: []parse.Sort{{Expr: col("a")}, down(col("b"))}, Limit: 3}
	l := []parse.Stmt{base, {}}
	for _, change := range []func(x *parse.Stmt){
		func(x *parse.Stmt) { x.Kind = 2 }, func(x *parse.Stmt) { x.Kind = 0 }, func(x *parse.Stmt) { x.Kind = -7 },
		func(x *parse.Stmt) { x.Table = "u" }, func(x *parse.Stmt) { x.Table = "" }, func(x *parse.Stmt) { x.Table = "T" },
		func(x *parse.Stmt) { x.Items = nil }, func(x *parse.Stmt) { x.Items = x.Items[:1] }, func(x *parse.Stmt) { x.Items = append(x.Items, as(col("b"), "")) }, func(x *parse.Stmt) { slices.Reverse(x.Items) },
		func(x *parse.Stmt) { x.Items[0].As = "y" }, func(x *parse.Stmt) { x.Items[0].As = "" }, func(x *parse.Stmt) { x.Items[1].As = "x" }, func(x *parse.Stmt) { x.Items[0].Expr = col("b") }, func(x *parse.Stmt) { x.Items[1].Expr = num(1) },
		func(x *parse.Stmt) { x.Where = nil }, func(x *parse.Stmt) { x.Where = x.Where[:1] }, func(x *parse.Stmt) { x.Where[1] = on("not", col("b")) }, func(x *parse.Stmt) { slices.Reverse(x.Where) },
		func(x *parse.Stmt) { x.Group = nil }, func(x *parse.Stmt) { x.Group = x.Group[:1] }, func(x *parse.Stmt) { x.Group[0] = "c" }, func(x *parse.Stmt) { slices.Reverse(x.Group) }, func(x *parse.Stmt) { x.Group = append(x.Group, "") },
		func(x *parse.Stmt) { x.Order = nil }, func(x *parse.Stmt) { x.Order = x.Order[:1] }, func(x *parse.Stmt) { x.Order[0].Desc = true }, func(x *parse.Stmt) { x.Order[1].Desc = false }, func(x *parse.Stmt) { x.Order[1].Expr = col("c") }, func(x *parse.Stmt) { slices.Reverse(x.Order) },
		func(x *parse.Stmt) { x.Limit = -1 }, func(x *parse.Stmt) { x.Limit = 0 }, func(x *parse.Stmt) { x.Limit = math.MinInt },
	} {
		x := copied(base)
		change(&x)
		l = append(l, x)
	}
	for i, x := range l {
		for j, y := range l {
			if got := parse.Same(x, copied(y)); got != (i == j) {
				t.Errorf("Same(%v, %v): %v", x, y, got)
			}
		}
	}
	empty := parse.Stmt{Items: []parse.Item{}, Where: []parse.Expr{}, Group: []string{}, Order: []parse.Sort{}}
	if !parse.Same(empty, parse.Stmt{}) || !parse.Same(parse.Stmt{}, empty) {
		t.Error("nil is not the empty list")
	}
}

func TestPS3Depth(t *testing.T) {
	a := col("a")
	for _, c := range []struct {
		x    parse.Expr
		want int
	}{
		{parse.Expr{}, 1}, {a, 1}, {num(1), 1}, {on("rows"), 1}, {on("none"), 1}, {on("neg", a), 2}, {on("", a), 2}, {on("+", a, a), 2}, {on("+", on("neg", a), a), 3}, {on("+", a, on("neg", a)), 3}, {on("+", on("neg", a), on("neg", a)), 3},
		{on("x", a, a, a, on("neg", on("neg", a)), a), 4}, {on("x", slices.Repeat([]parse.Expr{a}, 1000)...), 2}, {on("x", on("neg", on("neg", on("neg", a))), on("neg", a)), 5},
		{sunk(a, 31, 0, "+"), 32}, {sunk(a, 32, 1, "+"), 33}, {sunk(parse.Expr{}, 1000, 1, "and", "not"), 1001}, {sunk(a, 1<<16-1, 0, "neg"), 1 << 16}, {parse.Expr{Args: []parse.Expr{{}}}, 2}, {parse.Expr{Args: []parse.Expr{}}, 1},
	} {
		if got := parse.Depth(c.x); got != c.want {
			t.Errorf("Depth: %d, not %d", got, c.want)
		}
	}
}

func TestPS4Statements(t *testing.T) {
	r := rand.New(rand.NewSource(4))
	for _, s := range statements() {
		back(t, s.stmt)
	}
	for range 5000 {
		back(t, anyStmt(r))
	}
}

func TestPS4Expressions(t *testing.T) {
	r := rand.New(rand.NewSource(44))
	for range 5000 {
		backExpr(t, anyExpr(r, 1+r.Intn(6)))
	}
	for c := byte(32); c < 127; c++ {
		backExpr(t, text(string(c)))
		backExpr(t, text("'"+string(c)+"'"))
	}
	for n := range api.MaxDepth {
		for side := range 2 {
			backExpr(t, sunk(col("a"), n, side, append(signs(), "and", "or", "not", "neg", "isnull", "notnull", "count", "sum", "min", "max")...))
		}
	}
}

// back asks that what is printed is read as the same, and printed so again.
func back(t *testing.T, x parse.Stmt) {
	t.Helper()
	prints(t, x)
	s, err := parse.Print(x)
	if err != nil {
		t.Errorf("Print(%v): %v", x, err)
		return
	}
	gives(t, s, x)
	got, _, _ := parse.Parse(s)
	if again, err := parse.Print(got); again != s || err != nil {
		t.Errorf("Print of Parse of %q: %q, %v", s, again, err)
	}
}

func backExpr(t *testing.T, x parse.Expr) {
	t.Helper()
	printsExpr(t, x)
	s, err := parse.PrintExpr(x)
	if err != nil {
		t.Errorf("PrintExpr(%v): %v", x, err)
		return
	}
	givesExpr(t, s, x)
	got, _, _ := parse.ParseExpr(s)
	if again, err := parse.PrintExpr(got); again != s || err != nil {
		t.Errorf("PrintExpr of ParseExpr of %q: %q, %v", s, again, err)
	}
}

// gives asks that a text is this statement.
func gives(t *testing.T, s string, want parse.Stmt) {
	t.Helper()
	got, at, err := parse.Parse(s)
	if !parse.Same(got, want) || !alike(got, want) || at != len(s) || err != nil {
		t.Errorf("Parse(%q): %v, %d, %v, not %v", s, got, at, err, want)
	}
}

func givesExpr(t *testing.T, s string, want parse.Expr) {
	t.Helper()
	got, at, err := parse.ParseExpr(s)
	if !parse.SameExpr(got, want) || !alike(got, want) || at != len(s) || err != nil {
		t.Errorf("ParseExpr(%q): %v, %d, %v, not %v", s, got, at, err, want)
	}
}

// alike tells whether two say the same, field by field, without the package's own word for it.
func alike(a, b any) bool { return fmt.Sprint(a) == fmt.Sprint(b) }

// readsAs asks that a text is the expression that is printed so.
func readsAs(t *testing.T, s, want string) {
	t.Helper()
	x, at, err := parse.ParseExpr(s)
	told, wrong := parse.PrintExpr(x)
	if told != want || at != len(s) || err != nil || wrong != nil {
		t.Errorf("ParseExpr(%q): %q, %d, %v, %v, not %q", s, told, at, err, wrong, want)
	}
}

// refuses asks that a text is no statement: there, and so.
func refuses(t *testing.T, s string, at int, want error) {
	t.Helper()
	x, got, err := parse.Parse(s)
	if got != at || err != want || !reflect.ValueOf(x).IsZero() {
		t.Errorf("Parse(%.80q): %v, %d, %v, not %d, %v", s, x, got, err, at, want)
	}
}

func refusesExpr(t *testing.T, s string, at int, want error) {
	t.Helper()
	x, got, err := parse.ParseExpr(s)
	if got != at || err != want || !reflect.ValueOf(x).IsZero() {
		t.Errorf("ParseExpr(%.80q): %v, %d, %v, not %d, %v", s, x, got, err, at, want)
	}
}

// parses asks that Parse tells what the chapter's words do.
func parses(t *testing.T, s string) {
	t.Helper()
	want, at, err := read(s)
	if err != nil {
		refuses(t, s, at, err)
		return
	}
	gives(t, s, want)
}

// checksExpr asks that ParseExpr tells what the chapter's words do.
func checksExpr(t *testing.T, s string) {
	t.Helper()
	want, at, err := readExpr(s)
	if err != nil {
		refusesExpr(t, s, at, err)
		return
	}
	givesExpr(t, s, want)
}

// prints asks that Print tells what the chapter's words do.
func prints(t *testing.T, x parse.Stmt) {
	t.Helper()
	want, wrong := printed(x)
	if s, err := parse.Print(x); s != want || err != wrong {
		t.Errorf("Print(%v): %q, %v, not %q, %v", x, s, err, want, wrong)
	}
}

func printsExpr(t *testing.T, x parse.Expr) {
	t.Helper()
	want, wrong := printExpr(x)
	if s, err := parse.PrintExpr(x); s != want || err != wrong {
		t.Errorf("PrintExpr(%v): %q, %v, not %q, %v", x, s, err, want, wrong)
	}
}

// What is handed in is not changed.
func TestP7ArgumentsStay(t *testing.T) {
	r := rand.New(rand.NewSource(7))
	for range 500 {
		x, y := anyStmt(r), anyStmt(r)
		if r.Intn(3) == 0 && len(x.Items) > 0 {
			x.Items[0].Expr = on("none", col("A"))
		}
		x.Items, x.Where, x.Group, x.Order = spare(x.Items), spare(x.Where), spare(x.Group), spare(x.Order)
		one, other := roomy(x), roomy(y)
		parse.Print(x)
		parse.Same(x, y)
		for _, e := range tops(x) {
			parse.PrintExpr(e)
			parse.Depth(e)
			parse.SameExpr(e, e)
		}
		if !alike(roomy(x), one) || !alike(roomy(y), other) {
			t.Fatalf("%v became %v", one, x)
		}
	}
}

// spare is a list with room behind it.
func spare[T any](l []T) []T { return append(make([]T, 0, len(l)+20), l...) }

// roomy tells a statement's lists with all that lies in their spare room.
func roomy(x parse.Stmt) string {
	s := fmt.Sprint(x, x.Items[:cap(x.Items)], x.Where[:cap(x.Where)], x.Group[:cap(x.Group)], x.Order[:cap(x.Order)])
	for _, e := range tops(x) {
		s += fmt.Sprint(e.Args[:cap(e.Args)])
	}
	return s
}

// No two lists of an answer share memory, also not in their spare room: each is written full, and no other one changes.
func TestP7AnswersAreNew(t *testing.T) {
	for _, s := range statements() {
		first, _, _ := parse.Parse(s.text)
		second, _, _ := parse.Parse(s.text)
		if count := spoil(&first); count > 0 && parse.Same(first, second) {
			t.Errorf("%q: nothing was spoiled", s.text)
		}
		if !parse.Same(second, s.stmt) {
			t.Errorf("%q became %v", s.text, second)
		}
		gives(t, s.text, s.stmt)
		// One list alone is written full.
		for i := range 4 {
			x, _, _ := parse.Parse(s.text)
			want := copied(s.stmt)
			switch i {
			case 0:
				x.Items, want.Items = filled(x.Items, parse.Item{As: "spoiled"}), nil
			case 1:
				x.Where, want.Where = filled(x.Where, col("spoiled")), nil
			case 2:
				x.Group, want.Group = filled(x.Group, "spoiled"), nil
			case 3:
				x.Order, want.Order = filled(x.Order, parse.Sort{Desc: true}), nil
			}
			if !parse.Same(x, want) {
				t.Errorf("%q, the list %d written full: %v, not %v", s.text, i, x, want)
			}
		}
	}
	x, _, _ := parse.ParseExpr("a+b+c*d-e")
	filled(x.Args[0].Args, col("spoiled"))
	if s, err := parse.PrintExpr(x); s != "((spoiled + spoiled) - e)" || err != nil {
		t.Errorf("%q, %v", s, err)
	}
}

// filled writes a list full, and is nothing.
func filled[T any](l []T, x T) []T {
	for i := range l[:cap(l)] {
		l[:cap(l)][i] = x
	}
	return nil
}

// spoil writes all lists of a statement full, from their depths on, and tells how many items those have.
func spoil(x *parse.Stmt) int {
	count := len(x.Items) + len(x.Where) + len(x.Group) + len(x.Order)
	for _, e := range tops(*x) {
		spoilExpr(e)
	}
	for i := range x.Items {
		x.Items[i] = as(num(-1), "spoiled")
	}
	filled(x.Where, num(-1))
	filled(x.Group, "spoiled")
	filled(x.Order, down(num(-1)))
	return count
}

func spoilExpr(x parse.Expr) {
	for _, a := range x.Args {
		spoilExpr(a)
	}
	filled(x.Args, num(-1))
}

// The same is answered, however often and by how many it is asked; beside an error nothing but the place is.
func TestP7Alone(t *testing.T) {
	shared := anyStmt(rand.New(rand.NewSource(77)))
	var all sync.WaitGroup
	for n := range 8 {
		all.Go(func() {
			r := rand.New(rand.NewSource(int64(n % 2)))
			for range 200 {
				x := anyStmt(r)
				back(t, x)
				prints(t, shared)
				s, _ := parse.Print(x)
				cut := s[:r.Intn(len(s))]
				parses(t, cut)
				checksExpr(t, cut)
				var number api.Errno
				if got, _, err := parse.Parse(cut); err != nil && (!errors.As(err, &number) || !reflect.ValueOf(got).IsZero()) {
					t.Errorf("Parse(%q): %v, %v", cut, got, err)
				}
			}
		})
	}
	all.Wait()
}

// FuzzParse reads any text as a statement and as an expression.
func FuzzParse(f *testing.F) {
	for _, s := range statements() {
		f.Add(s.text)
	}
	for _, s := range []string{"", "a + 1 * 2 = 3 or not b", "SELECT FROM t", "count(*)", "select ' ", "a is not null", "((a))", "- - 1", "a = b = c", "sum(a", "9223372036854775808"} {
		f.Add(s)
	}
	f.Fuzz(func(t *testing.T, s string) {
		parses(t, s)
		checksExpr(t, s)
		if x, _, err := parse.Parse(s); err == nil {
			prints(t, x)
			// What is printed may be longer than what was read: with all its brackets and blanks.
			if told, err := parse.Print(x); err != nil || len(told) <= api.MaxSQL {
				back(t, x)
			}
		}
		if x, _, err := parse.ParseExpr(s); err == nil {
			printsExpr(t, x)
			if told, err := parse.PrintExpr(x); err != nil || len(told) <= api.MaxSQL {
				backExpr(t, x)
			}
		}
	})
}
