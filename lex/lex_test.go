package lex_test

import (
	"errors"
	"math"
	"math/rand"
	"slices"
	"strconv"
	"strings"
	"sync"
	"testing"

	"barbican/api"
	"barbican/lex"
)

func TestLX1Kinds(t *testing.T) {
	if lex.Word != 1 || lex.Number != 2 || lex.Text != 3 || lex.Sign != 4 {
		t.Errorf("%d, %d, %d, %d", lex.Word, lex.Number, lex.Text, lex.Sign)
	}
}

func TestLX1Examples(t *testing.T) {
	gives(t, "a<=1'x''y'", word("a", 0), sign("<=", 1), number(1, 3), quoted("x'y", 4))
	refuses(t, "a ; b", 2, api.ErrForm)
	gives(t, "SELECT k, Name FROM t1 WHERE k >= 10 OR s = 'It''s'",
		word("select", 0), word("k", 7), sign(",", 8), word("name", 10), word("from", 15), word("t1", 20), word("where", 23), word("k", 29), sign(">=", 31), number(10, 34), word("or", 37), word("s", 40), sign("=", 42), quoted("It's", 44))
	gives(t, "insert into t values(1,'a',-2)",
		word("insert", 0), word("into", 7), word("t", 12), word("values", 14), sign("(", 20), number(1, 21), sign(",", 22), quoted("a", 23), sign(",", 26), sign("-", 27), number(2, 28), sign(")", 29))
}

func TestLX1NothingButBlanks(t *testing.T) {
	gives(t, "")
	for _, a := range blanks() {
		gives(t, a)
		gives(t, strings.Repeat(a, 100))
		gives(t, strings.Repeat(a, api.MaxSQL))
		for _, b := range blanks() {
			gives(t, a+b)
			gives(t, a+b+a)
		}
	}
	// No other byte is a blank: neither those that look like one elsewhere.
	for _, s := range []string{"\v", "\f", "\x00", "\x1f", "\x7f", "\x85", "\xa0", "\u00a0", "\u2003", "\ufeff", "\b"} {
		refuses(t, s, 0, api.ErrForm)
		refuses(t, " "+s, 1, api.ErrForm)
		refuses(t, "a "+s+" b", 2, api.ErrForm)
	}
}

func TestLX1Longest(t *testing.T) {
	most := api.MaxSQL
	if most != 65536 {
		t.Fatalf("MaxSQL: %d", most)
	}
	gives(t, strings.Repeat("A", most), word(strings.Repeat("a", most), 0))
	gives(t, strings.Repeat(" ", most-1)+"1", number(1, most-1))
	gives(t, "1"+strings.Repeat("\n", most-1), number(1, 0))
	gives(t, "'"+strings.Repeat("x", most-2)+"'", quoted(strings.Repeat("x", most-2), 0))
	gives(t, strings.Repeat("'", most), quoted(strings.Repeat("'", most/2-1), 0))
	refuses(t, strings.Repeat("'", most-1), 0, api.ErrForm)
	refuses(t, strings.Repeat("a", most-1)+";", most-1, api.ErrForm)
	refuses(t, strings.Repeat("9", most), 0, api.ErrOver)
	refuses(t, "'"+strings.Repeat("x", most-1), 0, api.ErrForm)
	l, at, err := lex.Lex(strings.Repeat("(", most))
	if len(l) != most || at != most || err != nil {
		t.Fatalf("of %d signs: %d, %d, %v", most, len(l), at, err)
	}
	for i, x := range l {
		if x != sign("(", i) {
			t.Fatalf("the sign %d: %v", i, x)
		}
	}
}

// One byte more than MaxSQL, and nothing else is told, whatever stands in it.
func TestLX1TooLong(t *testing.T) {
	for _, s := range []string{"a", "1", "9", "0", " ", "\n", "'", "''", "'x", "(", "<>", ";", "\x00", "\xff", "a b ", "; 99999999999999999999 '"} {
		over := strings.Repeat(s, api.MaxSQL/len(s)+1)[:api.MaxSQL+1]
		refuses(t, over, 0, api.ErrLong)
		refuses(t, over+over, 0, api.ErrLong)
		lexes(t, over[:api.MaxSQL])
	}
	x := strings.Repeat("x", api.MaxSQL)
	for _, s := range []string{x + "x", x + " ", " " + x, x + ";", ";" + x, "'" + x, "'" + x + "'", x + "\x00"} {
		refuses(t, s, 0, api.ErrLong)
	}
}

func TestLX1Word(t *testing.T) {
	for c := byte('a'); c <= 'z'; c++ {
		small, great := string(c), strings.ToUpper(string(c))
		for s, want := range map[string]string{
			small: small, great: small, small + great: small + small, great + small: small + small,
			small + "0": small + "0", great + "9": small + "9", small + "_": small + "_", great + "__": small + "__",
			"x" + great: "x" + small, "X" + small: "x" + small,
		} {
			gives(t, s, word(want, 0))
		}
	}
	for s, want := range map[string]string{
		"select": "select", "SELECT": "select", "SeLeCt": "select", "a1": "a1", "A1B2": "a1b2", "a_b": "a_b", "A__9_": "a__9_", "a0123456789": "a0123456789",
		"z_": "z_", "null": "null", "TRUE": "true", "Label": "label", "a99999999999999999999999": "a99999999999999999999999",
		strings.Repeat("Ab", 1000): strings.Repeat("ab", 1000), "x" + strings.Repeat("_", 5000): "x" + strings.Repeat("_", 5000),
	} {
		gives(t, s, word(want, 0))
		gives(t, " "+s+"\n", word(want, 1))
	}
	refuses(t, "_", 0, api.ErrForm)
	refuses(t, "_a", 0, api.ErrForm)
	refuses(t, "__1", 0, api.ErrForm)
	refuses(t, "a _", 2, api.ErrForm)
	refuses(t, "a+_b", 2, api.ErrForm)
	gives(t, "1a", number(1, 0), word("a", 1))
	gives(t, "1a1", number(1, 0), word("a1", 1))
	gives(t, "00A_1", number(0, 0), word("a_1", 2))
	// A letter that is none of the 52 ends a word, and begins none.
	for _, s := range []string{"é", "É", "ß", "\u0130", "\u212a", "\u017f", "\u0430", "\uff41"} {
		refuses(t, s, 0, api.ErrForm)
		refuses(t, "a"+s, 1, api.ErrForm)
		refuses(t, "ab"+s+"c", 2, api.ErrForm)
	}
}

func TestLX1Number(t *testing.T) {
	for n := range 1000 {
		s := strconv.Itoa(n)
		gives(t, s, number(n, 0))
		gives(t, "0"+s, number(n, 0))
		gives(t, "000"+s, number(n, 0))
	}
	for s, want := range map[string]int{
		"0": 0, "9": 9, "00": 0, "007": 7, "10": 10, "4294967295": 1<<32 - 1, "4294967296": 1 << 32,
		"999999999999999999": 999999999999999999, "1000000000000000000": 1000000000000000000, "9223372036854775806": math.MaxInt - 1,
		"9223372036854775807": math.MaxInt, "09223372036854775807": math.MaxInt, "9199999999999999999": 9199999999999999999, "8999999999999999999": 8999999999999999999,
		strings.Repeat("0", 100) + "9223372036854775807":                   math.MaxInt,
		strings.Repeat("0", api.MaxSQL):                                    0,
		strings.Repeat("0", api.MaxSQL-1) + "7":                            7,
		strings.Repeat("0", api.MaxSQL-19) + "9223372036854775807":         math.MaxInt,
		strings.Repeat("0", api.MaxSQL-20) + "09223372036854775806":        math.MaxInt - 1,
		strings.Repeat("0", api.MaxSQL-30) + strings.Repeat("0", 29) + "1": 1,
	} {
		gives(t, s, number(want, 0))
	}
	for _, s := range []string{"9223372036854775808", "9223372036854775809", "9223372036854775810", "9223372036854775817", "9300000000000000000", "9999999999999999999", "10000000000000000000", "18446744073709551615", "18446744073709551616", "18446744073709551617", "27670116110564327424", "36893488147419103233", "92233720368547758070", "100000000000000000000", "340282366920938463463374607431768211456", strings.Repeat("1", 1000), "1" + strings.Repeat("0", 1000), "1" + strings.Repeat("0", api.MaxSQL-1), strings.Repeat("9", api.MaxSQL-8)} {
		refuses(t, s, 0, api.ErrOver)
		for _, ahead := range []string{"0", "000", " ", "a ", "1 ", "'", "-", "\n(", "<="} {
			if len(s)+len(ahead) <= api.MaxSQL {
				lexes(t, ahead+s)
			}
		}
	}
	refuses(t, "a = 9223372036854775808", 4, api.ErrOver)
	refuses(t, "-9223372036854775808", 1, api.ErrOver)
	refuses(t, "0009223372036854775808a", 0, api.ErrOver)
	refuses(t, strings.Repeat("0", api.MaxSQL-19)+"9223372036854775808", 0, api.ErrOver)
	gives(t, "9223372036854775807a", number(math.MaxInt, 0), word("a", 19))
	gives(t, "-9223372036854775807", sign("-", 0), number(math.MaxInt, 1))
	gives(t, "1 2", number(1, 0), number(2, 2))
	gives(t, "1'2'", number(1, 0), quoted("2", 1))
	gives(t, "0x10", number(0, 0), word("x10", 1))
	gives(t, "1e5", number(1, 0), word("e5", 1))
	refuses(t, "1_0", 1, api.ErrForm)
	refuses(t, "1.5", 1, api.ErrForm)
	refuses(t, ".5", 0, api.ErrForm)
	// Digits of other letters are none.
	refuses(t, "1\u0661", 1, api.ErrForm)
	refuses(t, "\uff11", 0, api.ErrForm)
}

func TestLX1Text(t *testing.T) {
	for s, want := range map[string]string{
		"''": "", "' '": " ", "'   '": "   ", "'a'": "a", "'a b'": "a b", "'It is'": "It is", "'ABC'": "ABC", "'aBc_1'": "aBc_1",
		"''''": "'", "''''''": "''", "''''''''": "'''", "'''a'": "'a", "'a'''": "a'", "'a''b'": "a'b", "'''a'''": "'a'", "'''a''b'''": "'a'b'", "'a''''b'": "a''b", "' '' '": " ' ",
		"'1'": "1", "'<='": "<=", "';'": ";", "'\"'": "\"", "'--'": "--", "'\\'": "\\", "'\\n'": "\\n", "'_'": "_", "'~ '": "~ ", "'9999999999999999999999'": "9999999999999999999999",
		"'" + strings.Repeat("''", 1000) + "'":  strings.Repeat("'", 1000),
		"'" + strings.Repeat("x''", 1000) + "'": strings.Repeat("x'", 1000),
		"'" + strings.Repeat("y", 5000) + "'":   strings.Repeat("y", 5000), // more than MaxText: it is a token all the same
	} {
		gives(t, s, quoted(want, 0))
		gives(t, "\t"+s+" ", quoted(want, 1))
		gives(t, "("+s+")", sign("(", 0), quoted(want, 1), sign(")", len(s)+1))
		gives(t, s+" "+s, quoted(want, 0), quoted(want, len(s)+1))
	}
	gives(t, "'a' 'b'", quoted("a", 0), quoted("b", 4))
	gives(t, "'a'b", quoted("a", 0), word("b", 3))
	gives(t, "a'b'", word("a", 0), quoted("b", 1))
	gives(t, "'a'1'b'", quoted("a", 0), number(1, 3), quoted("b", 4))
}

// A text that does not end is told where it begins; a quote that is doubled does not end it.
func TestLX1TextWithoutEnd(t *testing.T) {
	for _, s := range []string{"'", "'''", "'''''", "'a", "'a''", "'''a", "'a''b", "' ", "'it''s", "'a''''", "'a b c", "'\"", "'" + strings.Repeat("''", 1000), "'" + strings.Repeat("x", 5000)} {
		refuses(t, s, 0, api.ErrForm)
		refuses(t, " "+s, 1, api.ErrForm)
		refuses(t, "a = "+s, 4, api.ErrForm)
		refuses(t, "'b' "+s, 4, api.ErrForm)
		refuses(t, "1"+s, 1, api.ErrForm)
		refuses(t, s+" a 1", 0, api.ErrForm)
	}
	for n := range 50 {
		s := strings.Repeat("'", n)
		switch {
		case n == 0:
			gives(t, s)
		case n%2 == 0:
			gives(t, s, quoted(strings.Repeat("'", n/2-1), 0))
		default:
			refuses(t, s, 0, api.ErrForm)
		}
	}
}

// Each byte within a text: at its begin, in its middle, at its end, beside a doubled quote.
func TestLX1TextEachByte(t *testing.T) {
	for c := range 256 {
		one := string([]byte{byte(c)})
		for _, s := range []string{one, one + "a", "a" + one, "a" + one + "b", "''" + one, one + "''", "A''" + one + "''B"} {
			inner := strings.ReplaceAll(s, "''", "'")
			switch {
			case c == '\'': // where it stands alone or makes three
				lexes(t, "'"+s+"'")
			case c >= 32 && c <= 126:
				gives(t, "'"+s+"'", quoted(inner, 0))
				gives(t, "x '"+s+"'", word("x", 0), quoted(inner, 2))
			default:
				refuses(t, "'"+s+"'", 0, api.ErrForm)
				refuses(t, "x '"+s+"'", 2, api.ErrForm)
				refuses(t, "'"+s, 0, api.ErrForm)
			}
		}
	}
}

func TestLX1Sign(t *testing.T) {
	if n := len(signs()); n != 15 {
		t.Fatalf("%d signs", n)
	}
	for _, s := range signs() {
		gives(t, s, sign(s, 0))
		gives(t, " "+s+" ", sign(s, 1))
		gives(t, "a"+s+"1", word("a", 0), sign(s, 1), number(1, 1+len(s)))
		gives(t, "1"+s+"a", number(1, 0), sign(s, 1), word("a", 1+len(s)))
		gives(t, "'a'"+s+"'b'", quoted("a", 0), sign(s, 3), quoted("b", 3+len(s)))
	}
	gives(t, "<", sign("<", 0))
	gives(t, "< >", sign("<", 0), sign(">", 2))
	gives(t, "< =", sign("<", 0), sign("=", 2))
	gives(t, "> =", sign(">", 0), sign("=", 2))
	for _, s := range []string{"|", "!", "!=", "| |", "|a", "!<", "&", "&&", "^", "~", ":", ".", "?", "@", "#", "$", "[", "]", "{", "}", "\\", "`", "\"", ";"} {
		refuses(t, s, 0, api.ErrForm)
		refuses(t, "<"+s, 1, api.ErrForm)
		refuses(t, "(a "+s+")", 3, api.ErrForm)
	}
	refuses(t, "|||", 2, api.ErrForm)
	refuses(t, "a|b", 1, api.ErrForm)
	refuses(t, "a || b | c", 7, api.ErrForm)
}

// Each pair of signs without a blank between: what two of them make together is the longer one.
func TestLX1SignPairs(t *testing.T) {
	for s, parts := range map[string]string{
		"<>": "<>", "<=": "<=", ">=": ">=", "<<>": "< <>", "<<=": "< <=", "<>=": "<> =", "<>>": "<> >", "<=>": "<= >", "<==": "<= =", "><": "> <", "=<": "= <", "=>": "= >",
		">>=": "> >=", ">=>": ">= >", ">==": ">= =", "=<>": "= <>", "=<=": "= <=", "<>>=": "<> >=", "<>=>": "<> = >", "||||": "|| ||", "--": "- -", "(*)": "( * )",
	} {
		var want []lex.Token
		place := 0
		for _, p := range strings.Fields(parts) {
			want = append(want, sign(p, place))
			place += len(p)
		}
		gives(t, s, want...)
	}
	for _, a := range signs() {
		for _, b := range signs() {
			lexes(t, a+b)
			if a+b != "<>" && a+b != "<=" && a+b != ">=" && a+b != "<>=" {
				gives(t, a+b, sign(a, 0), sign(b, len(a)))
			}
			gives(t, a+" "+b, sign(a, 0), sign(b, len(a)+1))
			for _, c := range signs() {
				lexes(t, a+b+c)
				gives(t, a+"\n"+b+"\r"+c, sign(a, 0), sign(b, len(a)+1), sign(c, len(a+b)+2))
			}
		}
	}
}

// apart tells whether two tokens' texts say the same two, if no blank is between them.
func apart(a, b lex.Token, left, right string) bool {
	switch {
	case a.Kind == 1:
		return b.Kind != 1 && b.Kind != 2
	case a.Kind == 2:
		return b.Kind != 2
	case a.Kind == 3:
		return b.Kind != 3
	}
	return b.Kind != 4 || !slices.Contains(signs(), left+right[:1])
}

// some are tokens of every kind, with texts of theirs: as they are printed, and in other ways.
func some() ([]lex.Token, []string) {
	tokens := []lex.Token{word("a", 0), word("x1", 0), word("a_", 0), word("select", 0), number(0, 0), number(7, 0), number(math.MaxInt, 0), quoted("", 0), quoted(" ", 0), quoted("'", 0), quoted("It's", 0), quoted("a'", 0), quoted("'a", 0)}
	texts := []string{"a", "X1", "a_", "SeLect", "00", "7", "009223372036854775807", "''", "' '", "''''", "'It''s'", "'a'''", "'''a'"}
	for _, s := range signs() {
		tokens, texts = append(tokens, sign(s, 0)), append(texts, s)
	}
	return tokens, texts
}

func at(x lex.Token, place int) lex.Token {
	x.At = place
	return x
}

func TestLX1Neighbours(t *testing.T) {
	tokens, texts := some()
	count := 0
	for i, a := range tokens {
		for j, b := range tokens {
			left, right := texts[i], texts[j]
			for _, blank := range append(blanks(), "  ", "\r\n", " \t\n\r ") {
				gives(t, left+blank+right, a, at(b, len(left+blank)))
			}
			if apart(a, b, left, right) {
				count++
				gives(t, left+right, a, at(b, len(left)))
			}
			lexes(t, left+right)
		}
	}
	if count < 500 {
		t.Errorf("%d neighbours", count)
	}
	// Neighbours that are one, if no blank is between.
	gives(t, "a1", word("a1", 0))
	gives(t, "a 1", word("a", 0), number(1, 2))
	gives(t, "ab", word("ab", 0))
	gives(t, "12", number(12, 0))
	gives(t, "'a''b'", quoted("a'b", 0))
	gives(t, "'a' 'b'", quoted("a", 0), quoted("b", 4))
	gives(t, "a(1)*b%'c',2-3/d+4||e", word("a", 0), sign("(", 1), number(1, 2), sign(")", 3), sign("*", 4), word("b", 5), sign("%", 6), quoted("c", 7), sign(",", 10), number(2, 11), sign("-", 12), number(3, 13), sign("/", 14), word("d", 15), sign("+", 16), number(4, 17), sign("||", 18), word("e", 20))
}

// Each byte at the begin, in the middle and at the end, with blanks and without.
func TestLX1EachByte(t *testing.T) {
	none := 0
	for c := range 256 {
		one := string([]byte{byte(c)})
		for _, s := range []string{one, one + "a", one + " a", "a" + one, "a " + one, "a" + one + "b", "a " + one + " b", "1" + one + "2", "(" + one + ")", "<" + one + "=", "'x'" + one + "'y'", " " + one, one + " ", one + one, "a_" + one} {
			lexes(t, s)
		}
		if !strings.Contains("abcdefghijklmnopqrstuvwxyzABCDEFGHIJKLMNOPQRSTUVWXYZ0123456789(),*+-/%=<> \t\n\r", one) {
			none++
			for s, place := range map[string]int{one: 0, one + " a": 0, one + "a": 0, "a " + one + " b": 2, "1" + one + "2": 1, "a  " + one: 3, "'x'" + one: 3, ")" + one + "(": 1, "\n\n" + one: 2} {
				if c == '\'' && strings.Contains(s, "x'") {
					continue
				}
				refuses(t, s, place, api.ErrForm)
			}
		}
	}
	if none != 256-26-26-10-11-4 {
		t.Errorf("%d bytes begin no token", none)
	}
	for _, c := range []byte{0, ';', '"', 127, 128, 255} {
		one := string([]byte{c})
		refuses(t, one+"select k from t", 0, api.ErrForm)
		refuses(t, "select k"+one+" from t", 8, api.ErrForm)
		refuses(t, "select k from t"+one, 15, api.ErrForm)
		refuses(t, "select k from t "+one, 16, api.ErrForm)
	}
}

func TestLX1At(t *testing.T) {
	gives(t, "  a \t 1\n\r\n'x'   <=", word("a", 2), number(1, 6), quoted("x", 10), sign("<=", 16))
	for n := range 40 {
		for _, b := range blanks() {
			gap := strings.Repeat(b, n)
			gives(t, gap+"a", word("a", n))
			gives(t, gap+"(1"+gap, sign("(", n), number(1, n+1))
			gives(t, gap+"'''b'"+gap+">="+gap+"C", quoted("'b", n), sign(">=", 2*n+5), word("c", 3*n+7))
			refuses(t, gap+";", n, api.ErrForm)
			refuses(t, gap+"a("+gap+"'b", 2*n+2, api.ErrForm)
			refuses(t, gap+"a,"+gap+"9223372036854775808"+gap, 2*n+2, api.ErrOver)
		}
	}
}

// A text is read from its begin on: of several faults the first one is told.
func TestLX1FirstFault(t *testing.T) {
	for _, c := range []struct {
		s     string
		place int
		want  error
	}{
		{"; ;", 0, api.ErrForm}, {"a ; b ; c", 2, api.ErrForm}, {"a ; 'b", 2, api.ErrForm}, {"a 'b ; c", 2, api.ErrForm}, {"'a\x00' ;", 0, api.ErrForm},
		{"9223372036854775808 9223372036854775809", 0, api.ErrOver},
		{"a ; 9223372036854775808", 2, api.ErrForm}, {"'a 9223372036854775808", 0, api.ErrForm}, {"'\x01' 9223372036854775808", 0, api.ErrForm},
		{"a 9223372036854775808 ;", 2, api.ErrOver}, {"9223372036854775808;", 0, api.ErrOver}, {"(9223372036854775808'a", 1, api.ErrOver}, {"9223372036854775808_", 0, api.ErrOver},
	} {
		refuses(t, c.s, c.place, c.want)
	}
}

// texts goes over all texts of at most so many of these parts.
func texts(parts []string, most int, do func(string)) {
	do("")
	if most > 0 {
		for _, p := range parts {
			texts(parts, most-1, func(rest string) { do(p + rest) })
		}
	}
}

func TestLX1AllShortTexts(t *testing.T) {
	texts([]string{"a", "Z", "_", "0", "9", "'", " ", "\n", "<", ">", "=", "|", "(", "-", ";", "\x1f", "\x7f", "\xc3"}, 3, func(s string) { lexes(t, s) })
	texts([]string{"'", "a", " ", "\x00"}, 6, func(s string) { lexes(t, s) })
	texts([]string{"<", ">", "=", "|", " "}, 6, func(s string) { lexes(t, s) })
	texts([]string{"a", "B", "1", "_", " "}, 5, func(s string) { lexes(t, s) })
	texts([]string{"9223372036854775807", "9223372036854775808", "0", "a", " ", "'", ";"}, 4, func(s string) { lexes(t, s) })
}

// bits are what long texts are made of.
func bits() []string {
	_, texts := some()
	return append(append(texts, blanks()...), "  ", "1", "b", "C_", "0", "''", "'x y'", "'''", "9223372036854775808", ";", "|", "!", "\x00", "é", "'a\n'", "_")
}

func TestLX1LongRuns(t *testing.T) {
	r := rand.New(rand.NewSource(18))
	_, right := some()
	right = append(right, " ", " ", "\n", "\t", "\r")
	good := 0
	for n := range 20000 {
		parts := right
		if n%4 == 0 {
			parts = bits()
		}
		var s strings.Builder
		for range r.Intn(60) {
			s.WriteString(parts[r.Intn(len(parts))])
		}
		lexes(t, s.String())
		if _, _, err := read(s.String()); err == nil {
			good++
		}
	}
	if good < 2000 {
		t.Errorf("%d texts were right", good)
	}
}

func TestLX2Print(t *testing.T) {
	for want, l := range map[string][]lex.Token{
		"":                                 nil,
		"a":                                {word("a", 0)},
		"select":                           {word("select", 3)},
		"z9_":                              {word("z9_", 0)},
		"0":                                {number(0, 0)},
		"7":                                {number(7, 0)},
		"9223372036854775807":              {number(math.MaxInt, 0)},
		"''":                               {quoted("", 0)},
		"' '":                              {quoted(" ", 0)},
		"'a b'":                            {quoted("a b", 0)},
		"'It''s'":                          {quoted("It's", 0)},
		"''''":                             {quoted("'", 0)},
		"''''''":                           {quoted("''", 0)},
		"'''a'''":                          {quoted("'a'", 0)},
		"' ~'":                             {quoted(" ~", 0)},
		"';'":                              {quoted(";", 0)},
		"a <= 1 'x''y'":                    {word("a", 0), sign("<=", 0), number(1, 0), quoted("x'y", 0)},
		"a a":                              {word("a", 0), word("a", 0)},
		"1 2":                              {number(1, 0), number(2, 0)},
		"'a' 'b'":                          {quoted("a", 0), quoted("b", 0)},
		"< > < =":                          {sign("<", 0), sign(">", 0), sign("<", 0), sign("=", 0)},
		"( )":                              {sign("(", 0), sign(")", 0)},
		"- 1":                              {sign("-", 0), number(1, 0)},
		"insert into t values ( 1 , 'a' )": {word("insert", 0), word("into", 0), word("t", 0), word("values", 0), sign("(", 0), number(1, 0), sign(",", 0), quoted("a", 0), sign(")", 0)},
	} {
		if s, err := lex.Print(l); s != want || err != nil {
			t.Errorf("Print(%s): %q, %v, not %q", list(l), s, err, want)
		}
	}
	if s, err := lex.Print([]lex.Token{}); s != "" || err != nil {
		t.Errorf("Print of the empty list: %q, %v", s, err)
	}
	for _, g := range signs() {
		if s, err := lex.Print([]lex.Token{sign(g, 0)}); s != g || err != nil {
			t.Errorf("Print of %q: %q, %v", g, s, err)
		}
	}
}

// Where a token stands is not looked at, also where nothing can stand.
func TestLX2PrintAnyPlace(t *testing.T) {
	for _, place := range []int{0, 1, -1, api.MaxSQL, api.MaxSQL + 1, math.MinInt, math.MaxInt} {
		l := []lex.Token{word("a", place), number(5, place), quoted("b", place), sign("||", place)}
		if s, err := lex.Print(l); s != "a 5 'b' ||" || err != nil {
			t.Errorf("Print at %d: %q, %v", place, s, err)
		}
	}
}

// wrong are tokens that can't be.
func wrong() []lex.Token {
	out := []lex.Token{{}, {Text: "a"}, {Int: 1}, {Kind: -1}, {Kind: -1, Text: "a"}, {Kind: 5}, {Kind: 5, Text: "a"}, {Kind: 5, Text: "("}, {Kind: 5, Int: 1}, {Kind: 6, Text: "'a'"}, {Kind: 257, Text: "a"}, {Kind: 1<<32 + 1, Text: "a"}, {Kind: math.MaxInt, Text: "a"}, {Kind: math.MinInt, Text: "a"}}
	for _, s := range []string{"", "A", "aB", "Select", "a b", " a", "a ", "_", "_a", "1", "1a", "9_", "a-b", "a'", "'a'", "(", "<=", "a(", "a;", "a\x00", "\x00a", "a\n", "é", "aé", "a\xff", "a.b", "\"a\"", strings.Repeat("a", 1000) + "A"} {
		out = append(out, word(s, 0))
	}
	for _, n := range []int{-1, -2, -10, math.MinInt, math.MinInt + 1} {
		out = append(out, number(n, 0))
	}
	for _, s := range []string{"\x00", "\x1f", "\x7f", "\x80", "\xff", "\n", "\t", "\r", "a\n", "\na", "a\x00b", "é", "'\x01", "\x7f'", strings.Repeat("x", 5000) + "\n"} {
		out = append(out, quoted(s, 0))
	}
	for _, s := range []string{"", "a", "1", "'", "''", "!", "!=", "|", "|||", "<>=", "<<", ">>", "==", "=<", "=>", "><", "> =", "< ", " <", "()", "( )", ".", ";", "\x00", "&&", "--", "**", "<=>"} {
		out = append(out, sign(s, 0))
	}
	for _, n := range []int{1, -1, math.MaxInt, math.MinInt} {
		out = append(out, lex.Token{Kind: 1, Text: "a", Int: n}, lex.Token{Kind: 3, Int: n}, lex.Token{Kind: 3, Text: "a", Int: n}, lex.Token{Kind: 4, Text: "(", Int: n}, lex.Token{Kind: 1, Int: n}, lex.Token{Kind: 4, Int: n})
	}
	for _, s := range []string{"a", "0", "5", " ", "'", "("} {
		out = append(out, lex.Token{Kind: 2, Text: s}, lex.Token{Kind: 2, Text: s, Int: 5})
	}
	return out
}

func TestLX2PrintRefuses(t *testing.T) {
	ok := []lex.Token{word("a", 0), number(1, 0), quoted("x", 0), sign("(", 0)}
	for _, x := range wrong() {
		for place := range len(ok) + 1 {
			l := slices.Insert(slices.Clone(ok), place, x)
			if s, err := lex.Print(l); s != "" || err != api.ErrForm {
				t.Errorf("Print(%s): %s, %v, not ErrForm", list(l), short(s), err)
			}
		}
		for _, l := range [][]lex.Token{{x}, {x, x}} {
			if s, err := lex.Print(l); s != "" || err != api.ErrForm {
				t.Errorf("Print(%s): %s, %v, not ErrForm", list(l), short(s), err)
			}
		}
	}
}

// Each byte in each kind of token, alone and beside others; and each kind with each text and number of some.
func TestLX2PrintEachByte(t *testing.T) {
	for c := range 256 {
		one := string([]byte{byte(c)})
		for kind := -1; kind <= 6; kind++ {
			for _, s := range []string{one, "a" + one, one + "a", "a" + one + "a", "<" + one, one + "=", one + one, "'" + one} {
				prints(t, lex.Token{Kind: kind, Text: s})
			}
		}
	}
	tokens, _ := some()
	for kind := -2; kind <= 7; kind++ {
		for _, x := range append(tokens, wrong()...) {
			for _, n := range []int{0, 1, -1, x.Int} {
				prints(t, lex.Token{Kind: kind, Text: x.Text, Int: n})
				prints(t, lex.Token{Kind: kind, Int: n})
			}
		}
	}
}

// A token may be longer than a statement: what it is does not hang on that.
func TestLX2PrintLong(t *testing.T) {
	long := strings.Repeat("a", 2*api.MaxSQL)
	for _, x := range []lex.Token{word(long, 0), quoted(long, 0), quoted(strings.Repeat("'", api.MaxSQL), 0)} {
		prints(t, x)
		prints(t, x, x)
	}
	prints(t, word(long+"A", 0))
	prints(t, quoted(long+"\n", 0))
	many := slices.Repeat([]lex.Token{number(1, 0)}, api.MaxSQL)
	if s, err := lex.Print(many); s != strings.TrimSpace(strings.Repeat("1 ", api.MaxSQL)) || err != nil {
		t.Errorf("Print of many: %s, %v", short(s), err)
	}
	if s, err := lex.Print(append(many, word("A", 0))); s != "" || err != api.ErrForm {
		t.Errorf("Print of many, the last one wrong: %s, %v", short(s), err)
	}
}

func TestLX2Same(t *testing.T) {
	a, b := word("a", 0), word("b", 0)
	for _, c := range []struct {
		left, right []lex.Token
		want        bool
	}{
		{nil, nil, true}, {nil, []lex.Token{}, true}, {[]lex.Token{}, []lex.Token{}, true},
		{[]lex.Token{a}, nil, false}, {[]lex.Token{{}}, nil, false}, {[]lex.Token{a}, []lex.Token{a}, true},
		{[]lex.Token{a}, []lex.Token{a, a}, false}, {[]lex.Token{a, b}, []lex.Token{a}, false}, {[]lex.Token{a, b}, []lex.Token{b}, false}, {[]lex.Token{a, {}}, []lex.Token{a}, false},
		{[]lex.Token{a, b}, []lex.Token{a, b}, true}, {[]lex.Token{a, b}, []lex.Token{b, a}, false}, {[]lex.Token{a, b}, []lex.Token{a, a}, false}, {[]lex.Token{b, a}, []lex.Token{a, a}, false},
		{[]lex.Token{word("a", 0)}, []lex.Token{word("a", 7)}, true},
		{[]lex.Token{word("a", math.MinInt), b}, []lex.Token{word("a", math.MaxInt), b}, true},
		{[]lex.Token{a, word("b", 3)}, []lex.Token{word("a", 1), word("b", -3)}, true},
		{[]lex.Token{word("a", 0)}, []lex.Token{quoted("a", 0)}, false},
		{[]lex.Token{word("a", 0)}, []lex.Token{word("A", 0)}, false},
		{[]lex.Token{quoted("", 0)}, []lex.Token{quoted(" ", 0)}, false},
		{[]lex.Token{number(1, 0)}, []lex.Token{number(2, 0)}, false},
		{[]lex.Token{number(1, 0)}, []lex.Token{number(-1, 0)}, false},
		{[]lex.Token{number(0, 0)}, []lex.Token{quoted("", 0)}, false},
		{[]lex.Token{sign("<", 0)}, []lex.Token{sign("<=", 0)}, false},
		{[]lex.Token{sign("<", 0), sign("=", 1)}, []lex.Token{sign("<=", 0)}, false},
		{[]lex.Token{{Kind: 2, Text: "x", Int: 1}}, []lex.Token{{Kind: 2, Int: 1}}, false},
		{[]lex.Token{{Kind: 9, Text: "x", Int: 1, At: 1}}, []lex.Token{{Kind: 9, Text: "x", Int: 1, At: 2}}, true},
		{[]lex.Token{{Kind: 9}}, []lex.Token{{Kind: 8}}, false},
	} {
		if got := lex.Same(c.left, c.right); got != c.want {
			t.Errorf("Same(%s, %s): %t", list(c.left), list(c.right), got)
		}
		if got := lex.Same(c.right, c.left); got != c.want {
			t.Errorf("Same(%s, %s): %t", list(c.right), list(c.left), got)
		}
	}
}

// Lists that differ in one field of one token alone, at each place of them.
func TestLX2SameOfEachField(t *testing.T) {
	tokens, _ := some()
	l := slices.Concat(tokens, wrong())
	if !lex.Same(l, slices.Clone(l)) {
		t.Errorf("Same of a list and its clone")
	}
	for i := range l {
		for _, c := range []struct {
			change func(*lex.Token)
			want   bool
		}{
			{func(x *lex.Token) { x.Kind++ }, false}, {func(x *lex.Token) { x.Kind -= 5 }, false},
			{func(x *lex.Token) { x.Text += " " }, false}, {func(x *lex.Token) { x.Text = "other" }, false},
			{func(x *lex.Token) { x.Int++ }, false}, {func(x *lex.Token) { x.Int ^= math.MinInt }, false},
			{func(x *lex.Token) { x.At++ }, true}, {func(x *lex.Token) { x.At = math.MinInt }, true},
		} {
			other := slices.Clone(l)
			c.change(&other[i])
			if lex.Same(l, other) != c.want || lex.Same(other, l) != c.want || alike(l, other) != c.want {
				t.Errorf("Same of two lists, of which the token %d differs, %s: not %t", i, list([]lex.Token{l[i], other[i]}), c.want)
			}
		}
		if lex.Same(l, slices.Delete(slices.Clone(l), i, i+1)) || lex.Same(l[:i], l) || lex.Same(l, l[:i]) {
			t.Errorf("Same of a list and of it without the token %d", i)
		}
	}
}

// back tells where tokens are not those that are read of their Print, which then is printed again.
func back(t *testing.T, l []lex.Token) {
	t.Helper()
	s, err := lex.Print(l)
	if err != nil {
		t.Fatalf("Print(%s): %v", list(l), err)
	}
	got, size, err := lex.Lex(s)
	if !lex.Same(got, l) || !alike(got, l) || size != len(s) || err != nil {
		t.Errorf("Lex(%s): %s, %d, %v, not %s", short(s), list(got), size, err, list(l))
	}
	if again, err := lex.Print(got); again != s || err != nil {
		t.Errorf("Print(%s): %s, %v, not %s", list(got), short(again), err, short(s))
	}
}

func TestLX3LexOfPrint(t *testing.T) {
	tokens, _ := some()
	back(t, nil)
	back(t, tokens)
	for _, a := range tokens {
		back(t, []lex.Token{a})
		back(t, slices.Repeat([]lex.Token{a}, 100))
		for _, b := range tokens {
			back(t, []lex.Token{a, b})
			for _, c := range tokens {
				back(t, []lex.Token{a, b, c})
			}
		}
	}
	back(t, []lex.Token{word(strings.Repeat("a", api.MaxSQL), 0)})
	back(t, []lex.Token{quoted(strings.Repeat("x", api.MaxSQL-2), 0)})
	back(t, []lex.Token{quoted(strings.Repeat("'", api.MaxSQL/2-1), 0)})
	r := rand.New(rand.NewSource(183))
	for range 5000 {
		l := make([]lex.Token, r.Intn(40))
		for i := range l {
			l[i] = made(r)
		}
		back(t, l)
	}
}

// made is a token of any kind that can be.
func made(r *rand.Rand) lex.Token {
	of := func(bytes string, n int) string {
		var s strings.Builder
		for range n {
			s.WriteByte(bytes[r.Intn(len(bytes))])
		}
		return s.String()
	}
	switch r.Intn(4) {
	case 0:
		return word(of("abcxyz", 1)+of("abcxyz019_", r.Intn(6)), r.Int())
	case 1:
		return number(r.Int()>>r.Intn(64), r.Int())
	case 2:
		return quoted(of("'' ~aZ0;\"(", r.Intn(8)), r.Int())
	}
	return sign(signs()[r.Intn(len(signs()))], r.Int())
}

// Blanks between tokens change their places alone: each token stands as much later as there are blanks more ahead of it.
func TestLX3Blanks(t *testing.T) {
	r := rand.New(rand.NewSource(1818))
	for _, s := range []string{"a<=1'x''y'", "select k,label from t where(a||'b c')<>'''' or not b is null", "-1+ -2*(3/4)%5", "1a2 3b 'c'd", "", " a "} {
		for range 200 {
			spread(t, r, s)
		}
	}
	for range 2000 {
		l := make([]lex.Token, r.Intn(20))
		for i := range l {
			l[i] = made(r)
		}
		s, err := lex.Print(l)
		if err != nil {
			t.Fatalf("Print(%s): %v", list(l), err)
		}
		spread(t, r, s)
	}
}

// spread lays blanks ahead of each token of a text, and behind the last one.
func spread(t *testing.T, r *rand.Rand, s string) {
	t.Helper()
	l, _, err := lex.Lex(s)
	if err != nil {
		t.Fatalf("Lex(%s): %v", short(s), err)
	}
	wide, from := "", 0
	var want []lex.Token
	for i := range len(l) + 1 {
		end := len(s)
		if i < len(l) {
			end = l[i].At
		}
		wide += s[from:end]
		for range r.Intn(4) {
			wide += blanks()[r.Intn(4)]
		}
		if i < len(l) {
			want = append(want, at(l[i], len(wide)))
		}
		from = end
	}
	gives(t, wide, want...)
	if got, _, _ := lex.Lex(wide); !lex.Same(got, l) {
		t.Errorf("Lex(%s): %s, not %s", short(wide), list(got), list(l))
	}
}

// In small and in great letters a text says the same, but within quotes.
func TestLX3Letters(t *testing.T) {
	small, great := "select k from t where s='a' and b||'x y'<>''", "SELECT K FROM T WHERE S='a' AND B||'x y'<>''"
	mixed, other := "Select k From T Where s='a' And B||'x y'<>''", "SELECT K FROM T WHERE S='A' AND B||'X Y'<>''"
	a, _, _ := lex.Lex(small)
	for _, s := range []string{great, mixed} {
		if b, _, err := lex.Lex(s); !slices.Equal(a, b) || err != nil {
			t.Errorf("Lex(%q): %s, %v, not %s", s, list(b), err, list(a))
		}
	}
	b, _, err := lex.Lex(other)
	if lex.Same(a, b) || len(a) != len(b) || err != nil {
		t.Errorf("Lex(%q): %s, %v", other, list(b), err)
	}
	for i := range b {
		if (a[i].Kind == 3 && a[i].Text != "") == lex.Same(a[i:i+1], b[i:i+1]) || a[i].At != b[i].At || b[i].Kind == 3 && b[i].Text != strings.ToUpper(a[i].Text) {
			t.Errorf("%s and %s", list(a[i:i+1]), list(b[i:i+1]))
		}
	}
}

// No call changes what it is given, and what one answers is not told of by another.
func TestP7ArgumentsStay(t *testing.T) {
	tokens, _ := some()
	room := append(slices.Clone(tokens), word("spare", 1), word("Room", 2))
	was := slices.Clone(room)
	l := room[:len(tokens)]
	for _, x := range [][]lex.Token{l, room, append(slices.Clone(room), wrong()...)} {
		kept := slices.Clone(x)
		lex.Print(x)
		lex.Same(x, room)
		lex.Same(room, x)
		if !slices.Equal(x, kept) || !slices.Equal(room, was) {
			t.Errorf("%s became %s", list(kept), list(x))
		}
	}
}

func TestP7AnswersAreNew(t *testing.T) {
	for _, s := range []string{"a", "a b c", "a<=1'x''y'", "select k, label from t where k = 'a' or k < 10 + 3"} {
		want, _, _ := read(s)
		first, _, _ := lex.Lex(s)
		second, _, _ := lex.Lex(s)
		for i := range first[:cap(first)] {
			first[:cap(first)][i] = lex.Token{Kind: -1, Text: "spoiled", Int: -1, At: -1}
		}
		gives(t, s, want...)
		if !slices.Equal(second, want) {
			t.Errorf("Lex(%q) became %s", s, list(second))
		}
	}
}

// The same is answered, however often and by how many it is asked; beside an error nothing else is.
func TestP7Alone(t *testing.T) {
	parts := bits()
	var all sync.WaitGroup
	for n := range 8 {
		all.Go(func() {
			r := rand.New(rand.NewSource(int64(n % 2)))
			for range 300 {
				s := parts[r.Intn(len(parts))] + parts[r.Intn(len(parts))] + " " + parts[r.Intn(len(parts))]
				lexes(t, s)
				l, _, err := lex.Lex(s)
				var number api.Errno
				if err != nil && (l != nil || !errors.As(err, &number)) {
					t.Errorf("Lex(%q): %s, %v", s, list(l), err)
				}
				prints(t, l...)
				if !lex.Same(l, l) {
					t.Errorf("Same(%s) of it and itself", list(l))
				}
			}
		})
	}
	all.Wait()
}

// FuzzLex reads any text, and any token.
func FuzzLex(f *testing.F) {
	for _, s := range []string{"", "a<=1'x''y'", "a ; b", "select k, label from t where k = 'it''s' or not k < 10", "'a''", "9223372036854775808;", "1a_ _"} {
		f.Add(s, 1, "a", 0)
	}
	for _, x := range wrong() {
		f.Add("a", x.Kind, x.Text, x.Int)
	}
	f.Fuzz(func(t *testing.T, s string, kind int, text string, n int) {
		lexes(t, s)
		prints(t, lex.Token{Kind: kind, Text: text, Int: n})
		prints(t, lex.Token{Kind: kind % 5, Text: text, Int: n % 2})
		if l, _, err := lex.Lex(s); err == nil {
			// What is printed may be longer than what was read: there is a blank between all tokens.
			if told, err := lex.Print(l); err != nil || len(told) <= api.MaxSQL {
				back(t, l)
			}
		}
	})
}
