package order_test

import (
	"encoding/hex"
	"fmt"
	"math"
	"math/big"
	"regexp"
	"slices"
	"strings"
	"testing"

	"barbican/api"
	"barbican/order"
	"barbican/value"
)

func null() api.Value                  { return api.Value{} }
func num(n int) api.Value              { return api.Value{Kind: 1, Int: n} }
func text(s string) api.Value          { return api.Value{Kind: 2, Text: s} }
func truth(b bool) api.Value           { return api.Value{Kind: 3, Bool: b} }
func list(of ...api.Value) []api.Value { return of }

// times is a list of one value, so often.
func times(n int, v api.Value) []api.Value { return slices.Repeat([]api.Value{v}, n) }

// ints are numbers on both sides of 0, such as differ in each of the eight bytes, and the least and the greatest ones.
func ints() []int {
	out := []int{0, 1, -1, 2, -2, 127, 128, -127, -128, 255, 256, -255, -256, -257, 0x0102030405060708, -0x0102030405060708, math.MinInt, math.MinInt + 1, math.MaxInt - 1, math.MaxInt}
	for i := 8; i < 63; i += 8 {
		power := 1 << i
		out = append(out, power-1, power, power+1, -power-1, -power, -power+1, power<<7-1, power*127, -power*128)
	}
	return out
}

// texts are those that may be: of no bytes, with the least and the greatest byte, such as go on where another one ends, and the longest ones.
func texts() []string {
	out := []string{"", " ", "~", "  ", " ~", "~ ", "~~", "!", "}", "a", "ab", "abc", "a ", "a~", "b", "B", "0", "10", "9", "-1", "NULL", "'", "''"}
	for _, n := range []int{api.MaxText - 1, api.MaxText} {
		out = append(out, strings.Repeat("x", n), strings.Repeat(" ", n), strings.Repeat("~", n), strings.Repeat("ab", n)[:n])
	}
	return out
}

// values are values that may be.
func values() []api.Value {
	out := list(null(), truth(false), truth(true))
	for _, n := range ints() {
		out = append(out, num(n))
	}
	for _, s := range texts() {
		out = append(out, text(s))
	}
	return out
}

// few are values of each kind, few enough to be put into lists of up to three.
func few() []api.Value {
	return list(null(), num(math.MinInt), num(-1), num(0), num(1), num(256), num(math.MaxInt), text(""), text(" "), text("a"), text("a "), text("ab"), text("~"), truth(false), truth(true))
}

// lists are lists of values that may be: all of up to three of the few, each value alone, and many of them.
func lists() [][]api.Value {
	out := [][]api.Value{nil, {}}
	for _, a := range few() {
		out = append(out, list(a))
		for _, b := range few() {
			out = append(out, list(a, b))
			for _, c := range few() {
				out = append(out, list(a, b, c))
			}
		}
	}
	for _, v := range values() {
		out = append(out, list(v), list(null(), v), list(v, null()), list(v, v))
	}
	for _, v := range few() {
		out = append(out, times(api.MaxColumns-1, v), times(api.MaxColumns, v), append(times(api.MaxColumns-1, null()), v))
	}
	return append(out, times(api.MaxColumns, text(strings.Repeat("x", api.MaxText))), few(), values()[10:10+api.MaxColumns])
}

// wrong are values that may not be, each with the error of VA1.
func wrong() []struct {
	v    api.Value
	want error
} {
	long := strings.Repeat("x", api.MaxText+1)
	return []struct {
		v    api.Value
		want error
	}{
		{api.Value{Kind: -1}, api.ErrForm},
		{api.Value{Kind: 4}, api.ErrForm},
		{api.Value{Kind: math.MaxInt}, api.ErrForm},
		{api.Value{Kind: math.MinInt}, api.ErrForm},
		{api.Value{Kind: 256}, api.ErrForm},
		{api.Value{Int: 1}, api.ErrForm},
		{api.Value{Text: "a"}, api.ErrForm},
		{api.Value{Bool: true}, api.ErrForm},
		{api.Value{Kind: 1, Text: "a"}, api.ErrForm},
		{api.Value{Kind: 1, Text: long}, api.ErrForm},
		{api.Value{Kind: 1, Bool: true}, api.ErrForm},
		{api.Value{Kind: 2, Int: 1}, api.ErrForm},
		{api.Value{Kind: 2, Bool: true, Text: long}, api.ErrForm},
		{api.Value{Kind: 3, Int: 1}, api.ErrForm},
		{api.Value{Kind: 3, Text: "a"}, api.ErrForm},
		{text("\x00"), api.ErrForm},
		{text("a\x00"), api.ErrForm},
		{text("a\x1f"), api.ErrForm},
		{text("\x7fa"), api.ErrForm},
		{text("\x80"), api.ErrForm},
		{text("\xff"), api.ErrForm},
		{text("é"), api.ErrForm},
		{text(strings.Repeat("x", api.MaxText-1) + "\n"), api.ErrForm},
		{text(long), api.ErrLong},
		{text("\x00" + long), api.ErrLong},
		{text(long + "\xff"), api.ErrLong},
		{text(strings.Repeat("x", 3*api.MaxText)), api.ErrLong},
	}
}

// short tells a list, but not all of a long text.
func short(l []api.Value) string {
	var out []string
	for _, v := range l {
		s := fmt.Sprintf("%q", v.Text)
		if len(v.Text) > 20 {
			s = fmt.Sprintf("%q and so on, %d bytes", v.Text[:20], len(v.Text))
		}
		out = append(out, fmt.Sprintf("{%d %d %s %t}", v.Kind, v.Int, s, v.Bool))
	}
	return "[" + strings.Join(out, " ") + "]"
}

// bytesOf tells bytes, but not all of many.
func bytesOf(s string) string {
	if len(s) > 40 {
		return fmt.Sprintf("%v and so on, %d bytes", []byte(s[:40]), len(s))
	}
	return fmt.Sprint([]byte(s))
}

// half is how far the least int lies below 0.
func half() *big.Int { return new(big.Int).Lsh(big.NewInt(1), 63) }

// laid is a value that may be by the words of OR1. That a number's highest bit is turned is said by a sum: it is told from the least int on.
func laid(v api.Value) string {
	switch v.Kind {
	case 1:
		n := new(big.Int).Add(big.NewInt(int64(v.Int)), half())
		return "\x02" + string(n.FillBytes(make([]byte, 8)))
	case 2:
		return "\x03" + v.Text + "\x00"
	case 3:
		return map[bool]string{false: "\x04\x00", true: "\x04\x01"}[v.Bool]
	}
	return "\x01"
}

// laidAll are values that may be by the words of OR1.
func laidAll(l []api.Value) string {
	var out strings.Builder
	for _, v := range l {
		out.WriteString(laid(v))
	}
	return out.String()
}

// one is a value of OR1 at the begin of bytes, which are told by two digits each.
var one = regexp.MustCompile(`^(?:(01)|02((?:[0-9a-f]{2}){8})|03((?:[2-6][0-9a-f]|7[0-9a-e])*)00|04(0[01]))`)

// read is Decode by the words of OR2: whether bytes are the Encode of some values, and of which.
func read(s string) ([]api.Value, bool) {
	var l []api.Value
	for digits := hex.EncodeToString([]byte(s)); digits != ""; {
		parts := one.FindStringSubmatch(digits)
		if parts == nil || len(parts[3]) > 2*4096 || len(l) == 16 {
			return nil, false
		}
		v := null()
		switch digits[:2] {
		case "02":
			n, _ := new(big.Int).SetString(parts[2], 16)
			v = num(int(n.Sub(n, half()).Int64()))
		case "03":
			b, _ := hex.DecodeString(parts[3])
			v = text(string(b))
		case "04":
			v = truth(parts[4] == "01")
		}
		l, digits = append(l, v), digits[len(parts[0]):]
	}
	return l, true
}

// reads tells where Decode is not what the words of OR2 say.
func reads(t *testing.T, s string) {
	t.Helper()
	l, err := order.Decode(s)
	want, ok := read(s)
	switch {
	case ok && (err != nil || !slices.Equal(l, want)):
		t.Errorf("Decode(%s): %s, %v, not %s", bytesOf(s), short(l), err, short(want))
	case !ok && (err != api.ErrForm || len(l) != 0):
		t.Errorf("Decode(%s): %s, %v, not 3", bytesOf(s), short(l), err)
	}
}

// strung are all texts of so many of some bytes.
func strung(n int, of string) []string {
	out := []string{""}
	for range n {
		var longer []string
		for _, s := range out {
			for i := range len(of) {
				longer = append(longer, s+of[i:i+1])
			}
		}
		out = longer
	}
	return out
}

func TestOR1Encode(t *testing.T) {
	x := strings.Repeat("x", api.MaxText)
	for _, c := range []struct {
		l    []api.Value
		want string
	}{
		{nil, ""},
		{list(), ""},
		{list(null()), "\x01"},
		{list(num(1)), "\x02\x80\x00\x00\x00\x00\x00\x00\x01"},
		{list(num(0)), "\x02\x80\x00\x00\x00\x00\x00\x00\x00"},
		{list(num(-1)), "\x02\x7f\xff\xff\xff\xff\xff\xff\xff"},
		{list(num(math.MaxInt)), "\x02\xff\xff\xff\xff\xff\xff\xff\xff"},
		{list(num(math.MinInt)), "\x02\x00\x00\x00\x00\x00\x00\x00\x00"},
		{list(num(0x0102030405060708)), "\x02\x81\x02\x03\x04\x05\x06\x07\x08"},
		{list(text("")), "\x03\x00"},
		{list(text(" ~")), "\x03 ~\x00"},
		{list(text(x)), "\x03" + x + "\x00"},
		{list(truth(false)), "\x04\x00"},
		{list(truth(true)), "\x04\x01"},
		{list(text("a"), truth(true)), "\x03a\x00\x04\x01"},
		{list(truth(true), text("a")), "\x04\x01\x03a\x00"},
		{list(null(), null()), "\x01\x01"},
		{list(text(""), text("")), "\x03\x00\x03\x00"},
		{list(null(), num(-1), text("ab"), truth(false), null()), "\x01\x02\x7f\xff\xff\xff\xff\xff\xff\xff\x03ab\x00\x04\x00\x01"},
		{times(api.MaxColumns, null()), strings.Repeat("\x01", api.MaxColumns)},
		{times(api.MaxColumns, text(x)), strings.Repeat("\x03"+x+"\x00", api.MaxColumns)},
	} {
		if s, err := order.Encode(c.l); s != c.want || err != nil {
			t.Errorf("Encode(%s): %s, %v, not %s", short(c.l), bytesOf(s), err, bytesOf(c.want))
		}
	}
}

func TestOR1EncodeByTheWords(t *testing.T) {
	for _, l := range lists() {
		if s, err := order.Encode(l); s != laidAll(l) || err != nil {
			t.Errorf("Encode(%s): %s, %v, not %s", short(l), bytesOf(s), err, bytesOf(laidAll(l)))
		}
	}
}

// refuses tells where Encode does not answer an error alone.
func refuses(t *testing.T, l []api.Value, want error) {
	t.Helper()
	if s, err := order.Encode(l); s != "" || err != want {
		t.Errorf("Encode(%s): %s, %v, not %v", short(l), bytesOf(s), err, want)
	}
}

func TestOR1EncodeRefuses(t *testing.T) {
	for _, c := range wrong() {
		for _, size := range []int{1, 2, 3, api.MaxColumns, api.MaxColumns + 1, api.MaxColumns + 5} {
			for i := range size {
				l := append(few(), few()...)[:size]
				l[i] = c.v
				refuses(t, l, c.want)
			}
		}
	}
	for _, v := range few() {
		for _, size := range []int{api.MaxColumns + 1, api.MaxColumns + 2, 2 * api.MaxColumns, 300} {
			refuses(t, times(size, v), api.ErrLong)
		}
	}
}

// Of two values that may not be the first one is told, whichever error it has, and ahead of that they are too many.
func TestOR1EncodeRefusesTheFirst(t *testing.T) {
	for _, a := range wrong() {
		for _, b := range wrong() {
			refuses(t, list(a.v, b.v), a.want)
			refuses(t, list(null(), a.v, num(1), b.v, text("a")), a.want)
			for _, place := range []int{0, 1, api.MaxColumns - 1, api.MaxColumns, api.MaxColumns + 1} {
				l := times(api.MaxColumns+3, truth(true))
				l[place], l[api.MaxColumns+2] = a.v, b.v
				refuses(t, l, a.want)
			}
		}
	}
}

func TestOR2Decode(t *testing.T) {
	x := strings.Repeat("x", api.MaxText)
	for _, c := range []struct {
		s    string
		want []api.Value
	}{
		{"", nil},
		{"\x01", list(null())},
		{"\x01\x01", list(null(), null())},
		{"\x02\x80\x00\x00\x00\x00\x00\x00\x01", list(num(1))},
		{"\x02\x80\x00\x00\x00\x00\x00\x00\x00", list(num(0))},
		{"\x02\x7f\xff\xff\xff\xff\xff\xff\xff", list(num(-1))},
		{"\x02\xff\xff\xff\xff\xff\xff\xff\xff", list(num(math.MaxInt))},
		{"\x02\x00\x00\x00\x00\x00\x00\x00\x00", list(num(math.MinInt))},
		{"\x02\x01\x02\x03\x04\x01\x02\x03\x04\x01", list(num(math.MinInt+0x0102030401020304), null())},
		{"\x03\x00", list(text(""))},
		{"\x03 ~\x00", list(text(" ~"))},
		{"\x03" + x + "\x00", list(text(x))},
		{"\x03\x00\x03\x00", list(text(""), text(""))},
		{"\x03a\x00\x04\x01", list(text("a"), truth(true))},
		{"\x04\x00\x04\x01", list(truth(false), truth(true))},
		{strings.Repeat("\x01", api.MaxColumns), times(api.MaxColumns, null())},
		{strings.Repeat("\x04\x01", api.MaxColumns), times(api.MaxColumns, truth(true))},
		{strings.Repeat("\x03"+x+"\x00", api.MaxColumns), times(api.MaxColumns, text(x))},
	} {
		if l, err := order.Decode(c.s); !slices.Equal(l, c.want) || err != nil {
			t.Errorf("Decode(%s): %s, %v, not %s", bytesOf(c.s), short(l), err, short(c.want))
		}
	}
}

// noEncodes are texts that are the Encode of no values.
func noEncodes() []string {
	x := strings.Repeat("x", api.MaxText)
	out := []string{
		"\x03", "\x03a", "\x03a\x04\x01", "\x03" + x, "\x03\x01\x00", "\x03\x1f\x00", "\x03\x7f\x00", "\x03\x80\x00", "\x03\xff\x00", "\x03a\nb\x00", "\x03\u00e9\x00",
		"\x03a\x00\x00", "\x03\x00\x00", "\x03" + x + "x\x00", "\x03" + x + "\n\x00", "\x03" + x + x + "\x00\x01", "\x03a\x00a\x00",
		"\x04", "\x04\x02", "\x04\x03", "\x04\x04", "\x04\x80", "\x04\xff", "\x04\x01\x04", "\x04\x01\x01\x04", "\x04\x01\x00", "\x04\x00\x00",
		"\x01\x00", "\x01\x00\x01", "a", "~", "NULL", "\x00", "\x00\x01", "\x05", "\x05\x00", "\xff", "\x02",
	}
	for c := range 256 {
		if c < 1 || c > 4 {
			first := string([]byte{byte(c)})
			out = append(out, first, first+"\x00", first+"\x01", "\x01"+first, "\x03a\x00"+first, "\x02\x80\x00\x00\x00\x00\x00\x00\x01"+first)
		}
		if c > 1 {
			out = append(out, "\x04"+string([]byte{byte(c)}), "\x01\x04"+string([]byte{byte(c)})+"\x01")
		}
	}
	for n := range 8 {
		out = append(out, "\x02"+strings.Repeat("\x80", n), "\x01\x02"+strings.Repeat("\x00", n), "\x03a\x00\x02"+strings.Repeat("\xff", n))
	}
	for _, v := range few() {
		for _, n := range []int{api.MaxColumns + 1, api.MaxColumns + 2, 2 * api.MaxColumns, 300} {
			out = append(out, strings.Repeat(laid(v), n))
		}
	}
	return out
}

func TestOR2DecodeRefuses(t *testing.T) {
	for _, s := range noEncodes() {
		if l, err := order.Decode(s); len(l) != 0 || err != api.ErrForm {
			t.Errorf("Decode(%s): %s, %v, not 3", bytesOf(s), short(l), err)
		}
	}
}

func TestOR2DecodeRefusesEachByteOfAText(t *testing.T) {
	for c := range 256 {
		s := "\x03a" + string([]byte{byte(c)}) + "b\x00"
		reads(t, s)
		if _, err := order.Decode(s); (err == nil) != (c >= 32 && c <= 126) {
			t.Errorf("Decode of a text with the byte %d: %v", c, err)
		}
	}
}

// All texts of up to two bytes, all longer ones of a few kinds of bytes, and those that lie near an Encode are read by the words.
func TestOR2DecodeByTheWords(t *testing.T) {
	for a := range 256 {
		reads(t, string([]byte{byte(a)}))
		for b := range 256 {
			reads(t, string([]byte{byte(a), byte(b)}))
		}
	}
	for n := 3; n <= 5; n++ {
		for _, s := range strung(n, "\x00\x01\x02\x03\x04\x05 ~\x7f\xff") {
			reads(t, s)
		}
	}
	for _, s := range noEncodes() {
		reads(t, s)
	}
	for _, l := range lists() {
		s := laidAll(l)
		if len(s) > 100 {
			continue
		}
		for i := range len(s) {
			reads(t, s[:i])
			reads(t, s[i:])
			reads(t, s[:i]+s[i+1:])
			for _, c := range []string{"\x00", "\x01", "\x02", "\x03", "\x04", "\x05", "a", "\x7f", "\xff"} {
				reads(t, s[:i]+c+s[i+1:])
			}
		}
	}
}

// compared is Compare by the words of OR2.
func compared(a, b []api.Value) int {
	for i := 0; i < len(a) && i < len(b); i++ {
		if c := value.Compare(a[i], b[i]); c != 0 {
			return c
		}
	}
	switch {
	case len(a) < len(b):
		return -1
	case len(a) > len(b):
		return 1
	}
	return 0
}

func TestOR2Compare(t *testing.T) {
	for _, c := range []struct {
		a, b []api.Value
		want int
	}{
		{nil, nil, 0},
		{nil, list(), 0},
		{nil, list(null()), -1},
		{list(null()), list(null()), 0},
		{list(null()), list(null(), null()), -1},
		{list(null()), list(num(math.MinInt)), -1},
		{list(num(math.MaxInt)), list(text("")), -1},
		{list(text("~")), list(truth(false)), -1},
		{list(truth(false)), list(truth(true)), -1},
		{list(num(-1)), list(num(0)), -1},
		{list(num(math.MinInt)), list(num(math.MaxInt)), -1},
		{list(num(2)), list(num(10)), -1},
		{list(text("10")), list(text("2")), -1},
		{list(text("a")), list(text("ab")), -1},
		{list(text("a"), truth(true)), list(text("ab")), -1},
		{list(text("a"), null()), list(text("a"), truth(true)), -1},
		{list(num(1)), list(num(1), null()), -1},
		{list(num(1), null()), list(num(2)), -1},
		{list(num(1), num(5)), list(num(1), num(4), num(9)), 1},
		{list(num(1), text("b")), list(num(1), text("b")), 0},
		{times(api.MaxColumns, num(1)), append(times(api.MaxColumns-1, num(1)), num(2)), -1},
		// Lists that Encode refuses are put in order all the same.
		{times(api.MaxColumns+1, num(1)), times(api.MaxColumns, num(1)), 1},
		{append(times(300, num(1)), num(1)), append(times(300, num(1)), num(2)), -1},
		{list(api.Value{Kind: -1}), list(null()), -1},
		{list(api.Value{Kind: 4, Int: 1}), list(api.Value{Kind: 4, Int: 2}), 0},
		{list(api.Value{Kind: 4}, num(1)), list(api.Value{Kind: 4, Text: "a"}, num(2)), -1},
		{list(text("a\x00")), list(text("a")), 1},
	} {
		if got := order.Compare(c.a, c.b); got != c.want {
			t.Errorf("Compare(%s, %s): %d, not %d", short(c.a), short(c.b), got, c.want)
		}
		if got := order.Compare(c.b, c.a); got != -c.want {
			t.Errorf("Compare(%s, %s): %d, not %d", short(c.b), short(c.a), got, -c.want)
		}
	}
}

func TestOR2CompareByTheWords(t *testing.T) {
	all := lists()[:800]
	for _, c := range wrong() {
		all = append(all, list(c.v), list(null(), c.v), list(c.v, num(1)), times(api.MaxColumns+1, c.v))
	}
	for _, a := range all {
		for _, b := range all {
			if got, want := order.Compare(a, b), compared(a, b); got != want {
				t.Errorf("Compare(%s, %s): %d, not %d", short(a), short(b), got, want)
			}
		}
	}
}

func TestOR3Next(t *testing.T) {
	for _, c := range []struct {
		s, want string
		ok      bool
	}{
		{"", "", false},
		{"\xff", "", false},
		{"\xff\xff", "", false},
		{strings.Repeat("\xff", 300), "", false},
		{"\x00", "\x01", true},
		{"\x00\x00", "\x00\x01", true},
		{"\x7f", "\x80", true},
		{"\x80", "\x81", true},
		{"\xfe", "\xff", true},
		{"\xfe\xff", "\xff", true},
		{"\xff\xfe", "\xff\xff", true},
		{"\xff\xfe\xff", "\xff\xff", true},
		{"a", "b", true},
		{"ab", "ac", true},
		{"a\xff", "b", true},
		{"a\xff\xff\xff", "b", true},
		{"a\xffb", "a\xffc", true},
		{"a\xffb\xff", "a\xffc", true},
		{"\xffa", "\xffb", true},
		{"\xff\x00\xff", "\xff\x01", true},
		{"\x00\xff\xff", "\x01", true},
		// Bytes that are no runes are not taken for bytes 255.
		{"a\x80\xff", "a\x81", true},
		{"a\xfe\xc3\xff\xff", "a\xfe\xc4", true},
		{"é", "\xc3\xaa", true},
		{"\uffff\xff", "\xef\xbf\xc0", true},
		{"\ufffd\xff", "\xef\xbf\xbe", true},
		{strings.Repeat("a\xff", 300), strings.Repeat("a\xff", 299) + "b", true},
	} {
		if s, ok := order.Next(c.s); s != c.want || ok != c.ok {
			t.Errorf("Next(%s): %s, %t, not %s, %t", bytesOf(c.s), bytesOf(s), ok, bytesOf(c.want), c.ok)
		}
	}
	for c := range 255 {
		for _, head := range []string{"", "a", "\xff", "a\xff"} {
			for _, tail := range []string{"", "\xff", "\xff\xff"} {
				s, want := head+string([]byte{byte(c)})+tail, head+string([]byte{byte(c + 1)})
				if got, ok := order.Next(s); got != want || !ok {
					t.Errorf("Next(%s): %s, %t, not %s", bytesOf(s), bytesOf(got), ok, bytesOf(want))
				}
			}
		}
	}
}

// Next lies above every text that begins with s, and of all other texts above s none lies below it.
func TestOR3NextIsTheLeast(t *testing.T) {
	var all []string
	for n := range 5 {
		all = append(all, strung(n, "\x00\x01\x7f\x80\xfe\xff")...)
	}
	for _, s := range all {
		if len(s) > 3 {
			continue
		}
		next, ok := order.Next(s)
		if ok != (strings.Trim(fmt.Sprintf("%x", s), "f") != "") {
			t.Errorf("Next(%s): %t", bytesOf(s), ok)
		}
		for _, other := range all {
			below := !ok || other < next
			if want := other < s || strings.HasPrefix(other, s); below != want {
				t.Errorf("Next(%s): %s, %t, but that %s lies below it is %t", bytesOf(s), bytesOf(next), ok, bytesOf(other), below)
			}
		}
	}
}

// What begins with the text of a list lies below its Next, and all that is greater lies at it or above.
func TestOR3NextOfLists(t *testing.T) {
	all := lists()[:800]
	for _, head := range [][]api.Value{list(null()), list(num(math.MaxInt)), list(num(math.MinInt)), list(num(255)), list(text("")), list(text("a")), list(text("~")), list(truth(false)), list(truth(true)), list(num(1), text("a"))} {
		s := laidAll(head)
		next, ok := order.Next(s)
		for _, l := range all {
			begins := len(l) >= len(head) && slices.Equal(l[:len(head)], head)
			between := laidAll(l) >= s && (!ok || laidAll(l) < next)
			if begins != between {
				t.Errorf("Next of the text of %s: %s, %t, but between is %s: %t", short(head), bytesOf(next), ok, short(l), between)
			}
		}
	}
}

// encoded are the texts of lists of values that may be.
func encoded(t *testing.T, all [][]api.Value) []string {
	t.Helper()
	var out []string
	for _, l := range all {
		s, err := order.Encode(l)
		if err != nil {
			t.Fatalf("Encode(%s): %v", short(l), err)
		}
		out = append(out, s)
	}
	return out
}

func TestOR4OrderedAsTheLists(t *testing.T) {
	all := lists()[:1500]
	for _, v := range values() {
		all = append(all, list(v), list(v, num(-1)), list(num(-1), v))
	}
	out := encoded(t, all)
	for i, a := range all {
		for k, b := range all {
			if got, want := strings.Compare(out[i], out[k]), compared(a, b); got != want {
				t.Fatalf("the texts of %s and %s: %d, not %d", short(a), short(b), got, want)
			}
			if got, want := order.Compare(a, b), strings.Compare(out[i], out[k]); got != want {
				t.Fatalf("Compare(%s, %s): %d, but their texts %d", short(a), short(b), got, want)
			}
		}
	}
}

func TestOR4DecodeOfEncode(t *testing.T) {
	all := lists()
	for i, s := range encoded(t, all) {
		if l, err := order.Decode(s); err != nil || !slices.Equal(l, all[i]) {
			t.Errorf("Decode of Encode of %s: %s, %v", short(all[i]), short(l), err)
		}
	}
}

func TestOR4BeginsWithEachBegin(t *testing.T) {
	all := lists()
	for i, s := range encoded(t, all) {
		for n := range len(all[i]) + 1 {
			begin, err := order.Encode(all[i][:n])
			if err != nil || !strings.HasPrefix(s, begin) {
				t.Errorf("Encode of %s begins not with that of its first %d: %s, %v", short(all[i]), n, bytesOf(begin), err)
			}
		}
	}
}

// A list that is handed in stays as it is, with the room behind it.
func TestP7ArgumentsStay(t *testing.T) {
	for _, l := range lists() {
		room := append(slices.Clone(l), num(7), text("room"), truth(true))
		was := slices.Clone(room)
		order.Encode(room[:len(l)])
		order.Compare(room[:len(l)], room[:len(l)])
		if !slices.Equal(room, was) {
			t.Errorf("%s became %s", short(was), short(room))
		}
	}
}

// What stands in the room behind a list is none of its values.
func TestP7RoomIsNotRead(t *testing.T) {
	room := list(num(1), api.Value{Kind: 9})
	if s, err := order.Encode(room[:1]); s != laid(num(1)) || err != nil {
		t.Errorf("Encode(%s): %s, %v", short(room[:1]), bytesOf(s), err)
	}
	if c := order.Compare(room[:1], list(num(1))); c != 0 {
		t.Errorf("Compare(%s, %s): %d", short(room[:1]), short(list(num(1))), c)
	}
}

// Each answer is its own memory, spare room too.
func TestP7AnswersAreNew(t *testing.T) {
	for _, l := range lists() {
		s := laidAll(l)
		first, _ := order.Decode(s)
		second, _ := order.Decode(s)
		spoil := first[:cap(first)]
		for i := range spoil {
			spoil[i] = api.Value{Kind: -1, Int: -1, Text: "spoiled", Bool: true}
		}
		third, err := order.Decode(s)
		if !slices.Equal(second, l) || !slices.Equal(third, l) || err != nil {
			t.Errorf("Decode(%s): %s, then %s, %v", bytesOf(s), short(second), short(third), err)
		}
	}
}

// The same is answered, however often it is asked.
func TestP7Alone(t *testing.T) {
	for _, l := range lists() {
		s, err := order.Encode(l)
		again, errAgain := order.Encode(slices.Clone(l))
		if s != again || err != errAgain {
			t.Errorf("Encode(%s): %s, %v, then %s, %v", short(l), bytesOf(s), err, bytesOf(again), errAgain)
		}
		next, ok := order.Next(s)
		nextAgain, okAgain := order.Next(again)
		if next != nextAgain || ok != okAgain || !ok && next != "" {
			t.Errorf("Next(%s): %s, %t, then %s, %t", bytesOf(s), bytesOf(next), ok, bytesOf(nextAgain), okAgain)
		}
	}
}

func FuzzDecode(f *testing.F) {
	for _, s := range noEncodes() {
		f.Add(s, "\x01")
	}
	for _, a := range few() {
		for _, b := range few() {
			f.Add(laid(a)+laid(b), laid(b))
		}
	}
	f.Fuzz(func(t *testing.T, s, other string) {
		reads(t, s)
		a, err := order.Decode(s)
		b, errOther := order.Decode(other)
		if err != nil || errOther != nil {
			return
		}
		if again, err := order.Encode(a); again != s || err != nil {
			t.Fatalf("%s is decoded as %s, and encoded as %s, %v", bytesOf(s), short(a), bytesOf(again), err)
		}
		if got, want := order.Compare(a, b), strings.Compare(s, other); got != want {
			t.Fatalf("Compare(%s, %s): %d, but their texts %d", short(a), short(b), got, want)
		}
	})
}

func FuzzNext(f *testing.F) {
	f.Add("", "")
	f.Add("a\xff", "a\xff\xff")
	f.Add("a\x80\xff", "a\x81")
	f.Add("\xff\xff", "\xff\xff\xff")
	f.Fuzz(func(t *testing.T, s, other string) {
		next, ok := order.Next(s)
		if !ok && (next != "" || strings.Count(s, "\xff") != len(s)) {
			t.Fatalf("Next(%q): %q, false", s, next)
		}
		for _, l := range []string{other, s + other, s, s + "\xff", s + "\xff\xff\xff"} {
			below := !ok || l < next
			if want := l < s || strings.HasPrefix(l, s); below != want {
				t.Fatalf("Next(%q): %q, %t, but that %q lies below it is %t", s, next, ok, l, below)
			}
		}
	})
}
