package value_test

import (
	"fmt"
	"math"
	"math/big"
	"regexp"
	"strings"
	"testing"

	"barbican/api"
	"barbican/value"
)

// ints are numbers on both sides of 0, around the powers of 2 and of 10, around the root of the greatest int, and the least and the greatest ones.
func ints() []int {
	out := []int{0, 1, -1, 2, -2, 3, -3, 7, -7, 10, -10, 3037000499, -3037000499, 3037000500, -3037000500, math.MinInt, math.MinInt + 1, math.MinInt + 2, math.MaxInt - 1, math.MaxInt}
	for _, i := range []int{7, 8, 31, 32, 33, 61, 62} {
		power := 1 << i
		out = append(out, power-1, power, power+1, -power-1, -power, -power+1)
	}
	for _, i := range []int{10, 100, 1000000000, 1000000000000000000} {
		out = append(out, i-1, i, i+1, -i-1, -i, -i+1)
	}
	return append(out, math.MaxInt/2, math.MaxInt/2+1, math.MinInt/2, math.MinInt/2-1, math.MaxInt/3, math.MinInt/3)
}

// texts are those that may be: of no bytes, of bytes at both ends of those that may be, such as go on where another one ends, such as look like other literals, with one and with many quotes, and the longest ones.
func texts() []string {
	out := []string{"", " ", "~", "!", "}", " ~", "a", "ab", "abc", "b", "B", "A", "z", "10", "9", "-1", "NULL", "TRUE", "FALSE", "'", "''", "'''", "''''", "it's", "'a", "a'", "'a'", "a''b", "a'b'c", " ' ", "\\", "\"", "%", "--"}
	for _, n := range []int{api.MaxText - 1, api.MaxText} {
		out = append(out, strings.Repeat("x", n), strings.Repeat("'", n), strings.Repeat("'y", n)[:n])
	}
	return out
}

// wrongTexts are those that may not be, though they are not too long.
func wrongTexts() []string {
	return []string{"\x00", "\x1f", "\x7f", "\x80", "\xff", "\n", "a\tb", "é", "a\x00", "\x00a", strings.Repeat("x", api.MaxText-1) + "\n"}
}

// longTexts are too long, some with a byte that may not be.
func longTexts() []string {
	x := strings.Repeat("x", api.MaxText)
	return []string{x + "x", x + "'", "\n" + x, x + "\n", x + x, strings.Repeat("\x00", api.MaxText+1), strings.Repeat("'", 2*api.MaxText+1)}
}

// valid are values that may be.
func valid() []api.Value {
	out := []api.Value{{}, {Kind: 3}, {Kind: 3, Bool: true}}
	for _, n := range ints() {
		out = append(out, api.Value{Kind: 1, Int: n})
	}
	for _, s := range texts() {
		out = append(out, api.Value{Kind: 2, Text: s})
	}
	return out
}

// kindsBeyond are none of the four.
func kindsBeyond() []int {
	return []int{-1, -2, -3, 4, 5, 7, 255, 256, 257, 1 << 32, math.MinInt, math.MaxInt}
}

// loaded are values with something that their kind doesn't name, or of a kind that is none.
func loaded() []api.Value {
	out := []api.Value{
		{Kind: 0, Int: 1}, {Kind: 0, Int: -1}, {Kind: 0, Text: "a"}, {Kind: 0, Bool: true}, {Kind: 0, Int: 1, Text: "a", Bool: true},
		{Kind: 1, Int: 5, Text: "a"}, {Kind: 1, Int: 5, Bool: true}, {Kind: 1, Text: " "}, {Kind: 1, Bool: true}, {Kind: 1, Int: 4, Text: "b", Bool: true},
		{Kind: 2, Text: "a", Int: 5}, {Kind: 2, Text: "a", Bool: true}, {Kind: 2, Int: -5}, {Kind: 2, Bool: true}, {Kind: 2, Text: "\n", Int: 1, Bool: true},
		{Kind: 3, Bool: true, Int: 5}, {Kind: 3, Bool: true, Text: "a"}, {Kind: 3, Int: 1}, {Kind: 3, Text: "TRUE"}, {Kind: 3, Int: 1, Text: "b"},
	}
	for _, k := range kindsBeyond() {
		out = append(out, api.Value{Kind: k}, api.Value{Kind: k, Int: 5}, api.Value{Kind: k, Text: "a"}, api.Value{Kind: k, Bool: true})
	}
	for _, s := range longTexts() {
		out = append(out, api.Value{Text: s}, api.Value{Kind: 1, Text: s}, api.Value{Kind: 3, Text: s}, api.Value{Kind: 4, Text: s}, api.Value{Kind: 2, Text: s, Int: 1}, api.Value{Kind: 2, Text: s, Bool: true})
	}
	return out
}

// all are values of every sort, whether they may be or not.
func all() []api.Value {
	out := append(valid(), loaded()...)
	for _, s := range append(wrongTexts(), longTexts()...) {
		out = append(out, api.Value{Kind: 2, Text: s})
	}
	return out
}

// few are values of every sort, few enough to be tried three by three.
func few() []api.Value {
	out := append(valid()[:9], loaded()[:40]...)
	for _, s := range []string{"", " ", "a", "ab", "b", "\x00", "\x80", "a\x00", "a\xff", strings.Repeat("x", api.MaxText+1)} {
		out = append(out, api.Value{Kind: 2, Text: s})
	}
	return append(out, api.Value{Kind: 1, Int: math.MinInt}, api.Value{Kind: 1, Int: math.MaxInt})
}

// short tells a value, but not all of a long text.
func short(v api.Value) string {
	s := fmt.Sprintf("%q", v.Text)
	if len(v.Text) > 20 {
		s = fmt.Sprintf("%q and so on, %d bytes", v.Text[:20], len(v.Text))
	}
	return fmt.Sprintf("{%d %d %s %t}", v.Kind, v.Int, s, v.Bool)
}

// answers tells where an answer is not what was wanted, and of which call and values it is.
func answers(t *testing.T, got api.Value, err error, want api.Value, wantErr error, name string, of ...api.Value) {
	t.Helper()
	if got != want || err != wantErr {
		t.Errorf("%s: %s, %v, not %s, %v", call(name, of...), short(got), err, short(want), wantErr)
	}
}

// call names a call of some values.
func call(name string, of ...api.Value) string {
	for _, v := range of {
		name += " " + short(v)
	}
	return name
}

// validity is Valid by the words of VA1.
func validity(v api.Value) error {
	others := map[int]bool{
		0: v.Int != 0 || v.Text != "" || v.Bool,
		1: v.Text != "" || v.Bool,
		2: v.Int != 0 || v.Bool,
		3: v.Int != 0 || v.Text != "",
	}
	if other, known := others[v.Kind]; !known || other {
		return api.ErrForm
	}
	if len(v.Text) > 4096 {
		return api.ErrLong
	}
	for _, c := range []byte(v.Text) {
		if c < ' ' || c > '~' {
			return api.ErrForm
		}
	}
	return nil
}

func TestVA1Valid(t *testing.T) {
	for _, v := range valid() {
		if err := value.Valid(v); err != nil {
			t.Errorf("Valid(%s): %v", short(v), err)
		}
	}
	for _, v := range loaded() {
		if err := value.Valid(v); err != api.ErrForm {
			t.Errorf("Valid(%s): %v, not 3", short(v), err)
		}
	}
	for _, s := range wrongTexts() {
		if err := value.Valid(api.Value{Kind: 2, Text: s}); err != api.ErrForm {
			t.Errorf("Valid of the text %.20q: %v, not 3", s, err)
		}
	}
	// What is too long is told ahead of a byte that may not be.
	for _, s := range longTexts() {
		if err := value.Valid(api.Value{Kind: 2, Text: s}); err != api.ErrLong {
			t.Errorf("Valid of a text of %d bytes: %v, not 2", len(s), err)
		}
	}
	for _, v := range all() {
		if err, want := value.Valid(v), validity(v); err != want {
			t.Errorf("Valid(%s): %v, not %v", short(v), err, want)
		}
	}
}

func TestVA1ValidEachByte(t *testing.T) {
	for c := range 256 {
		want := error(api.ErrForm)
		if c >= 32 && c <= 126 {
			want = nil
		}
		one := string([]byte{byte(c)})
		for _, s := range []string{one, one + "a", "a" + one, "a" + one + "a", strings.Repeat("x", api.MaxText-1) + one, one + strings.Repeat("x", api.MaxText-1)} {
			if err := value.Valid(api.Value{Kind: 2, Text: s}); err != want {
				t.Errorf("Valid of %d bytes with the byte %d: %v, not %v", len(s), c, err, want)
			}
		}
	}
}

func TestVA1ValidEachKind(t *testing.T) {
	for k := -300; k <= 300; k++ {
		want := error(api.ErrForm)
		if k >= 0 && k <= 3 {
			want = nil
		}
		if err := value.Valid(api.Value{Kind: k}); err != want {
			t.Errorf("Valid of the kind %d: %v, not %v", k, err, want)
		}
	}
}

// Values are made whether they may be or not.
func TestVA1Made(t *testing.T) {
	if v := value.Null(); v != (api.Value{}) {
		t.Errorf("Null: %s", short(v))
	}
	for _, n := range ints() {
		if v := value.Int(n); v != (api.Value{Kind: 1, Int: n}) {
			t.Errorf("Int(%d): %s", n, short(v))
		}
	}
	for _, b := range []bool{false, true} {
		if v := value.Bool(b); v != (api.Value{Kind: 3, Bool: b}) {
			t.Errorf("Bool(%t): %s", b, short(v))
		}
	}
	for _, list := range [][]string{texts(), wrongTexts(), longTexts()} {
		for _, s := range list {
			if v := value.Text(s); v != (api.Value{Kind: 2, Text: s}) {
				t.Errorf("Text(%.20q): %s", s, short(v))
			}
		}
	}
}

func TestVA1Kind(t *testing.T) {
	names := []string{"NULL", "INT", "TEXT", "BOOL"}
	for k, want := range names {
		if s := value.Kind(k); s != want {
			t.Errorf("Kind(%d): %q, not %q", k, s, want)
		}
	}
	for _, k := range kindsBeyond() {
		if s := value.Kind(k); s != "" {
			t.Errorf("Kind(%d): %q", k, s)
		}
	}
	for k := -300; k <= 300; k++ {
		want := ""
		if k >= 0 && k < len(names) {
			want = names[k]
		}
		if s := value.Kind(k); s != want {
			t.Errorf("Kind(%d): %q, not %q", k, s, want)
		}
	}
}

// before tells by the words of VA2 whether a stands ahead of b.
func before(a, b api.Value) bool {
	switch {
	case a.Kind != b.Kind:
		return a.Kind < b.Kind
	case a.Kind == 1:
		return a.Int < b.Int
	case a.Kind == 3:
		return !a.Bool && b.Bool
	case a.Kind != 2:
		return false
	}
	for i := range min(len(a.Text), len(b.Text)) {
		if a.Text[i] != b.Text[i] {
			return a.Text[i] < b.Text[i]
		}
	}
	return len(a.Text) < len(b.Text)
}

// compared is Compare by the words of VA2.
func compared(a, b api.Value) int {
	switch {
	case before(a, b):
		return -1
	case before(b, a):
		return 1
	}
	return 0
}

func TestVA2Compare(t *testing.T) {
	for _, c := range []struct {
		a, b api.Value
		want int
	}{
		{value.Null(), value.Null(), 0},
		{value.Null(), value.Int(math.MinInt), -1},
		{value.Int(math.MaxInt), value.Text(""), -1},
		{value.Text("~~~"), value.Bool(false), -1},
		{value.Null(), value.Bool(false), -1},
		{value.Bool(false), value.Bool(true), -1},
		{value.Bool(true), value.Bool(true), 0},
		{value.Bool(false), value.Bool(false), 0},
		{value.Int(math.MinInt), value.Int(math.MaxInt), -1},
		{value.Int(math.MinInt), value.Int(1), -1},
		{value.Int(-2), value.Int(math.MaxInt), -1},
		{value.Int(-1), value.Int(0), -1},
		{value.Int(9), value.Int(10), -1},
		{value.Text("10"), value.Text("9"), -1},
		{value.Text(""), value.Text(" "), -1},
		{value.Text("a"), value.Text("ab"), -1},
		{value.Text("ab"), value.Text("b"), -1},
		{value.Text("B"), value.Text("a"), -1},
		{value.Text("a"), value.Text("a"), 0},
		{value.Text("\x7f"), value.Text("\x80"), -1},
		{value.Text("a"), value.Text("a\x00"), -1},
		// Of a kind that is none nothing is compared but the kind; of others nothing but what it names.
		{api.Value{Kind: 4, Int: 1, Text: "a"}, api.Value{Kind: 4, Int: 2, Text: "b", Bool: true}, 0},
		{api.Value{Kind: -1, Int: 9}, value.Null(), -1},
		{value.Bool(true), api.Value{Kind: 4}, -1},
		{api.Value{Kind: math.MinInt}, api.Value{Kind: math.MaxInt}, -1},
		{api.Value{Int: 1}, api.Value{Int: 2}, 0},
		{api.Value{Kind: 1, Int: 1, Text: "b", Bool: true}, api.Value{Kind: 1, Int: 1, Text: "a"}, 0},
		{api.Value{Kind: 2, Text: "a", Int: 2, Bool: true}, api.Value{Kind: 2, Text: "a", Int: 1}, 0},
		{api.Value{Kind: 3, Int: 2, Text: "b"}, api.Value{Kind: 3, Int: 1, Text: "a"}, 0},
	} {
		if n := value.Compare(c.a, c.b); n != c.want {
			t.Errorf("%s: %d, not %d", call("Compare", c.a, c.b), n, c.want)
		}
		if n := value.Compare(c.b, c.a); n != -c.want {
			t.Errorf("%s: %d, not %d", call("Compare", c.b, c.a), n, -c.want)
		}
	}
	for _, a := range all() {
		for _, b := range all() {
			if n, want := value.Compare(a, b), compared(a, b); n != want {
				t.Errorf("%s: %d, not %d", call("Compare", a, b), n, want)
			}
		}
	}
}

// binary are the calls of two values that ask for kinds, and the kinds that they ask for beside null.
func binary() map[string]struct {
	do    func(a, b api.Value) (api.Value, error)
	kinds string
} {
	type entry = struct {
		do    func(a, b api.Value) (api.Value, error)
		kinds string
	}
	out := map[string]entry{
		"Equal": {value.Equal, "123"},
		"Less":  {value.Less, "123"},
		"And":   {value.And, "3"},
		"Or":    {value.Or, "3"},
		"Join":  {value.Join, "2"},
	}
	for _, op := range []byte("+-*/%") {
		out["Reckon "+string(op)] = entry{func(a, b api.Value) (api.Value, error) { return value.Reckon(op, a, b) }, "1"}
	}
	return out
}

// asked tells whether a kind is among some, or null's.
func asked(kind int, kinds string) bool {
	return kind == 0 || kind >= 1 && kind <= 9 && strings.Contains(kinds, string(rune('0'+kind)))
}

// A kind that is not asked for is refused, whatever the other value is: null too, and one that alone would decide.
func TestVA2KindsThatAreNotAskedFor(t *testing.T) {
	for name, c := range binary() {
		for _, a := range all() {
			for _, b := range few() {
				if asked(a.Kind, c.kinds) && asked(b.Kind, c.kinds) {
					continue
				}
				got, err := c.do(a, b)
				answers(t, got, err, api.Value{}, api.ErrKind, name, a, b)
				got, err = c.do(b, a)
				answers(t, got, err, api.Value{}, api.ErrKind, name, b, a)
			}
		}
	}
	for _, a := range all() {
		if !asked(a.Kind, "3") {
			got, err := value.Not(a)
			answers(t, got, err, api.Value{}, api.ErrKind, "Not", a)
		}
	}
}

// Null is asked for everywhere, on both sides, also one that has something else.
func TestVA2NullIsAskedForEverywhere(t *testing.T) {
	nulls := []api.Value{{}, {Int: 1}, {Text: "a"}, {Bool: true}, {Text: strings.Repeat("x", api.MaxText+1)}}
	for name, c := range binary() {
		for _, null := range nulls {
			for _, v := range append(all(), nulls...) {
				decides := name == "And" && !v.Bool || name == "Or" && v.Bool
				if !asked(v.Kind, c.kinds) || v.Kind == 3 && decides {
					continue
				}
				got, err := c.do(null, v)
				answers(t, got, err, api.Value{}, nil, name, null, v)
				got, err = c.do(v, null)
				answers(t, got, err, api.Value{}, nil, name, v, null)
			}
		}
	}
	for _, null := range nulls {
		got, err := value.Not(null)
		answers(t, got, err, api.Value{}, nil, "Not", null)
	}
}

// held is Equal or Less by the words of VA2 and VA3, where yes tells which answers of Compare are true.
func held(a, b api.Value, yes func(int) bool) (api.Value, error) {
	if !asked(a.Kind, "123") || !asked(b.Kind, "123") {
		return api.Value{}, api.ErrKind
	}
	if a.Kind == 0 || b.Kind == 0 {
		return api.Value{}, nil
	}
	if a.Kind != b.Kind {
		return api.Value{}, api.ErrKind
	}
	return api.Value{Kind: 3, Bool: yes(compared(a, b))}, nil
}

func TestVA3EqualAndLess(t *testing.T) {
	yes, no, null := value.Bool(true), value.Bool(false), value.Null()
	for _, c := range []struct {
		a, b        api.Value
		equal, less api.Value
		err         error
	}{
		{null, null, null, null, nil},
		{null, value.Int(0), null, null, nil},
		{null, value.Text(""), null, null, nil},
		{null, value.Bool(false), null, null, nil},
		{value.Int(1), null, null, null, nil},
		{value.Text("a"), null, null, null, nil},
		{value.Bool(true), null, null, null, nil},
		{value.Int(1), value.Int(1), yes, no, nil},
		{value.Int(1), value.Int(2), no, yes, nil},
		{value.Int(2), value.Int(1), no, no, nil},
		{value.Int(math.MinInt), value.Int(math.MaxInt), no, yes, nil},
		{value.Int(math.MaxInt), value.Int(math.MinInt), no, no, nil},
		{value.Text(""), value.Text(""), yes, no, nil},
		{value.Text("a"), value.Text("ab"), no, yes, nil},
		{value.Text("ab"), value.Text("a"), no, no, nil},
		{value.Text("A"), value.Text("a"), no, yes, nil},
		{value.Bool(false), value.Bool(true), no, yes, nil},
		{value.Bool(true), value.Bool(false), no, no, nil},
		{value.Bool(true), value.Bool(true), yes, no, nil},
		{value.Int(0), value.Text(""), null, null, api.ErrKind},
		{value.Int(0), value.Bool(false), null, null, api.ErrKind},
		{value.Text("TRUE"), value.Bool(true), null, null, api.ErrKind},
		{api.Value{Kind: 4}, api.Value{Kind: 4}, null, null, api.ErrKind},
		{api.Value{Kind: -1}, null, null, null, api.ErrKind},
		{null, api.Value{Kind: 4}, null, null, api.ErrKind},
	} {
		got, err := value.Equal(c.a, c.b)
		answers(t, got, err, c.equal, c.err, "Equal", c.a, c.b)
		got, err = value.Less(c.a, c.b)
		answers(t, got, err, c.less, c.err, "Less", c.a, c.b)
	}
	for _, a := range all() {
		for _, b := range all() {
			got, err := value.Equal(a, b)
			want, wantErr := held(a, b, func(n int) bool { return n == 0 })
			answers(t, got, err, want, wantErr, "Equal", a, b)
			got, err = value.Less(a, b)
			want, wantErr = held(a, b, func(n int) bool { return n < 0 })
			answers(t, got, err, want, wantErr, "Less", a, b)
		}
	}
}

// truths are false, null and true, each also with something that its kind doesn't name.
func truths() [3][]api.Value {
	return [3][]api.Value{
		{{Kind: 3}, {Kind: 3, Int: 1}, {Kind: 3, Text: "TRUE"}},
		{{}, {Int: 1}, {Text: "a"}, {Bool: true}},
		{{Kind: 3, Bool: true}, {Kind: 3, Bool: true, Int: -1}, {Kind: 3, Bool: true, Text: "FALSE"}},
	}
}

func TestVA3AndOrNot(t *testing.T) {
	no, null, yes := value.Bool(false), value.Null(), value.Bool(true)
	and := [3][3]api.Value{{no, no, no}, {no, null, null}, {no, null, yes}}
	or := [3][3]api.Value{{no, null, yes}, {null, null, yes}, {yes, yes, yes}}
	not := [3]api.Value{yes, null, no}
	for i, left := range truths() {
		for _, a := range left {
			got, err := value.Not(a)
			answers(t, got, err, not[i], nil, "Not", a)
			for j, right := range truths() {
				for _, b := range right {
					got, err := value.And(a, b)
					answers(t, got, err, and[i][j], nil, "And", a, b)
					got, err = value.Or(a, b)
					answers(t, got, err, or[i][j], nil, "Or", a, b)
				}
			}
		}
	}
}

// reckoned is Reckon of numbers by the words of VA4, with numbers that have no bound.
func reckoned(op byte, a, b int) (api.Value, error) {
	x, y, n := big.NewInt(int64(a)), big.NewInt(int64(b)), new(big.Int)
	if b == 0 && (op == '/' || op == '%') {
		return api.Value{}, api.ErrZero
	}
	switch op {
	case '+':
		n.Add(x, y)
	case '-':
		n.Sub(x, y)
	case '*':
		n.Mul(x, y)
	case '/':
		n.Quo(x, y)
	case '%':
		n.Rem(x, y)
	}
	if !n.IsInt64() {
		return api.Value{}, api.ErrOver
	}
	return api.Value{Kind: 1, Int: int(n.Int64())}, nil
}

func TestVA4Reckon(t *testing.T) {
	const least, greatest = math.MinInt, math.MaxInt
	for _, c := range []struct {
		op   byte
		a, b int
		want int
		err  error
	}{
		{'+', 1, 2, 3, nil},
		{'-', 1, 2, -1, nil},
		{'*', -3, 4, -12, nil},
		{'/', 7, 2, 3, nil},
		{'/', -7, 2, -3, nil},
		{'/', 7, -2, -3, nil},
		{'/', -7, -2, 3, nil},
		{'%', 7, 2, 1, nil},
		{'%', -7, 2, -1, nil},
		{'%', 7, -2, 1, nil},
		{'%', -7, -2, -1, nil},
		{'+', greatest, 1, 0, api.ErrOver},
		{'+', greatest, 0, greatest, nil},
		{'+', greatest, least, -1, nil},
		{'+', greatest, greatest, 0, api.ErrOver},
		{'+', least, -1, 0, api.ErrOver},
		{'+', least, least, 0, api.ErrOver},
		{'+', least, 0, least, nil},
		{'-', least, 1, 0, api.ErrOver},
		{'-', least, least, 0, nil},
		{'-', least, 0, least, nil},
		{'-', 0, least, 0, api.ErrOver},
		{'-', -1, least, greatest, nil},
		{'-', greatest, -1, 0, api.ErrOver},
		{'-', greatest, greatest, 0, nil},
		{'-', greatest, least, 0, api.ErrOver},
		{'-', least, greatest, 0, api.ErrOver},
		{'*', least, -1, 0, api.ErrOver},
		{'*', -1, least, 0, api.ErrOver},
		{'*', least, 1, least, nil},
		{'*', 1, least, least, nil},
		{'*', least, 0, 0, nil},
		{'*', 0, least, 0, nil},
		{'*', greatest, -1, -greatest, nil},
		{'*', greatest, 2, 0, api.ErrOver},
		{'*', least, least, 0, api.ErrOver},
		{'*', 1 << 32, 1 << 31, 0, api.ErrOver},
		{'*', -1 << 32, 1 << 31, least, nil},
		{'*', 1 << 32, 1 << 32, 0, api.ErrOver},
		{'/', least, -1, 0, api.ErrOver},
		{'/', least, 1, least, nil},
		{'/', least, least, 1, nil},
		{'/', greatest, -1, -greatest, nil},
		{'%', least, -1, 0, nil},
		{'%', least, greatest, -1, nil},
		{'%', greatest, least, greatest, nil},
		{'%', -1, least, -1, nil},
		{'/', 0, 0, 0, api.ErrZero},
		{'/', least, 0, 0, api.ErrZero},
		{'%', 0, 0, 0, api.ErrZero},
		{'%', greatest, 0, 0, api.ErrZero},
		{'/', 0, -1, 0, nil},
		{'%', 0, -1, 0, nil},
	} {
		a, b, want := value.Int(c.a), value.Int(c.b), value.Int(c.want)
		if c.err != nil {
			want = api.Value{}
		}
		got, err := value.Reckon(c.op, a, b)
		answers(t, got, err, want, c.err, "Reckon "+string(c.op), a, b)
	}
	for _, op := range []byte("+-*/%") {
		for _, a := range ints() {
			for _, b := range ints() {
				got, err := value.Reckon(op, value.Int(a), value.Int(b))
				want, wantErr := reckoned(op, a, b)
				answers(t, got, err, want, wantErr, "Reckon "+string(op), value.Int(a), value.Int(b))
			}
		}
	}
}

// An op that is none is told ahead of kinds, kinds ahead of null, null ahead of a division by 0.
func TestVA4ReckonRefusesInOrder(t *testing.T) {
	for op := range 256 {
		if strings.Contains("+-*/%", string(rune(op))) {
			continue
		}
		for _, a := range few() {
			for _, b := range []api.Value{{}, value.Int(0), value.Int(1), value.Text("a"), {Kind: 4}} {
				got, err := value.Reckon(byte(op), a, b)
				answers(t, got, err, api.Value{}, api.ErrForm, fmt.Sprintf("Reckon %d", op), a, b)
			}
		}
	}
	zero, null, greatest := value.Int(0), value.Null(), value.Int(math.MaxInt)
	for _, op := range []byte("+-*/%") {
		for _, bad := range []api.Value{value.Text("1"), value.Text(""), value.Bool(false), value.Bool(true), {Kind: 4}, {Kind: -1}, {Kind: 4, Int: 1}} {
			for _, v := range []api.Value{zero, null, greatest, bad} {
				got, err := value.Reckon(op, bad, v)
				answers(t, got, err, api.Value{}, api.ErrKind, "Reckon "+string(op), bad, v)
				got, err = value.Reckon(op, v, bad)
				answers(t, got, err, api.Value{}, api.ErrKind, "Reckon "+string(op), v, bad)
			}
		}
		for _, v := range []api.Value{zero, null, greatest} {
			got, err := value.Reckon(op, null, v)
			answers(t, got, err, null, nil, "Reckon "+string(op), null, v)
			got, err = value.Reckon(op, v, null)
			answers(t, got, err, null, nil, "Reckon "+string(op), v, null)
		}
	}
}

// What a number's kind doesn't name is neither reckoned with nor answered.
func TestVA4ReckonOfNumbersThatMayNotBe(t *testing.T) {
	a, b := api.Value{Kind: 1, Int: 7, Text: "a", Bool: true}, api.Value{Kind: 1, Int: 2, Text: "b"}
	for op, want := range map[byte]int{'+': 9, '-': 5, '*': 14, '/': 3, '%': 1} {
		got, err := value.Reckon(op, a, b)
		answers(t, got, err, api.Value{Kind: 1, Int: want}, nil, "Reckon "+string(op), a, b)
	}
}

func TestVA4Join(t *testing.T) {
	x := strings.Repeat("x", api.MaxText)
	for _, c := range []struct {
		a, b, want api.Value
		err        error
	}{
		{value.Text(""), value.Text(""), value.Text(""), nil},
		{value.Text("a"), value.Text("b"), value.Text("ab"), nil},
		{value.Text("b"), value.Text("a"), value.Text("ba"), nil},
		{value.Text("a"), value.Text(""), value.Text("a"), nil},
		{value.Text(""), value.Text("a"), value.Text("a"), nil},
		{value.Text("'"), value.Text("'"), value.Text("''"), nil},
		{value.Text(x), value.Text(""), value.Text(x), nil},
		{value.Text(""), value.Text(x), value.Text(x), nil},
		{value.Text(x[1:]), value.Text("a"), value.Text(x[1:] + "a"), nil},
		{value.Text(x[2000:]), value.Text(x[:2000]), value.Text(x), nil},
		{value.Text(x), value.Text("a"), api.Value{}, api.ErrLong},
		{value.Text("a"), value.Text(x), api.Value{}, api.ErrLong},
		{value.Text(x[2000:]), value.Text(x[:2001]), api.Value{}, api.ErrLong},
		{value.Text(x), value.Text(x), api.Value{}, api.ErrLong},
		{value.Text(x + "x"), value.Text(""), api.Value{}, api.ErrLong},
		{value.Text(""), value.Text(x + "x"), api.Value{}, api.ErrLong},
		// Kinds are told ahead of null, null ahead of what is too long.
		{value.Text(x + "x"), value.Null(), api.Value{}, nil},
		{value.Null(), value.Text(x + "x"), api.Value{}, nil},
		{value.Null(), value.Null(), api.Value{}, nil},
		{value.Text(""), value.Null(), api.Value{}, nil},
		{value.Text(x + "x"), value.Int(1), api.Value{}, api.ErrKind},
		{value.Bool(true), value.Text(x + "x"), api.Value{}, api.ErrKind},
		{value.Int(1), value.Null(), api.Value{}, api.ErrKind},
		{value.Null(), value.Bool(false), api.Value{}, api.ErrKind},
		{api.Value{Kind: 4, Text: "a"}, value.Text("a"), api.Value{}, api.ErrKind},
		// Bytes that may not be are joined all the same, and nothing else of a text is.
		{value.Text("\x00"), value.Text("\xff"), value.Text("\x00\xff"), nil},
		{value.Text("\xc3"), value.Text("\xa9"), value.Text("é"), nil},
		{api.Value{Kind: 2, Text: "a", Int: 1}, api.Value{Kind: 2, Text: "b", Bool: true}, value.Text("ab"), nil},
	} {
		got, err := value.Join(c.a, c.b)
		answers(t, got, err, c.want, c.err, "Join", c.a, c.b)
	}
	for n := range 40 {
		for _, m := range []int{api.MaxText - n - 1, api.MaxText - n, api.MaxText - n + 1} {
			if m > api.MaxText {
				continue
			}
			a, b, want, wantErr := value.Text(x[:n]), value.Text(x[:m]), api.Value{Kind: 2}, error(nil)
			if want.Text = x[:n] + x[:m]; n+m > api.MaxText {
				want, wantErr = api.Value{}, api.ErrLong
			}
			got, err := value.Join(a, b)
			answers(t, got, err, want, wantErr, "Join", a, b)
		}
	}
}

// printed is Print by the words of VA5.
func printed(v api.Value) (string, error) {
	if err := validity(v); err != nil {
		return "", err
	}
	switch v.Kind {
	case 0:
		return "NULL", nil
	case 1:
		return big.NewInt(int64(v.Int)).String(), nil
	case 3:
		return map[bool]string{true: "TRUE", false: "FALSE"}[v.Bool], nil
	}
	out := []byte{'\''}
	for _, c := range []byte(v.Text) {
		if c == '\'' {
			out = append(out, c)
		}
		out = append(out, c)
	}
	return string(append(out, '\'')), nil
}

func TestVA5Print(t *testing.T) {
	for _, c := range []struct {
		v    api.Value
		want string
		err  error
	}{
		{value.Null(), "NULL", nil},
		{value.Bool(true), "TRUE", nil},
		{value.Bool(false), "FALSE", nil},
		{value.Int(0), "0", nil},
		{value.Int(-1), "-1", nil},
		{value.Int(10), "10", nil},
		{value.Int(math.MinInt), "-9223372036854775808", nil},
		{value.Int(math.MaxInt), "9223372036854775807", nil},
		{value.Text(""), "''", nil},
		{value.Text(" "), "' '", nil},
		{value.Text("~"), "'~'", nil},
		{value.Text("it's"), "'it''s'", nil},
		{value.Text("'"), "''''", nil},
		{value.Text("''"), "''''''", nil},
		{value.Text("NULL"), "'NULL'", nil},
		{value.Text("\\n"), "'\\n'", nil},
		{value.Text(strings.Repeat("'", api.MaxText)), strings.Repeat("'", 2*api.MaxText+2), nil},
		{value.Text("\x1f"), "", api.ErrForm},
		{value.Text("\x7f"), "", api.ErrForm},
		{value.Text(strings.Repeat("x", api.MaxText+1)), "", api.ErrLong},
		{value.Text(strings.Repeat("\n", api.MaxText+1)), "", api.ErrLong},
		{api.Value{Kind: 4}, "", api.ErrForm},
		{api.Value{Kind: -1}, "", api.ErrForm},
		{api.Value{Int: 1}, "", api.ErrForm},
		{api.Value{Kind: 1, Text: strings.Repeat("x", api.MaxText+1)}, "", api.ErrForm},
	} {
		if s, err := value.Print(c.v); s != c.want || err != c.err {
			t.Errorf("Print(%s): %.40q, %v, not %.40q, %v", short(c.v), s, err, c.want, c.err)
		}
	}
	for _, v := range all() {
		s, err := value.Print(v)
		if want, wantErr := printed(v); s != want || err != wantErr {
			t.Errorf("Print(%s): %.40q, %v, not %.40q, %v", short(v), s, err, want, wantErr)
		}
	}
}

var number = regexp.MustCompile(`^(0|-?[1-9][0-9]*)$`)

// parsed is Parse by the words of VA5: which texts are printed is told by their form, without Print.
func parsed(s string) (api.Value, error) {
	switch s {
	case "NULL":
		return api.Value{}, nil
	case "TRUE":
		return api.Value{Kind: 3, Bool: true}, nil
	case "FALSE":
		return api.Value{Kind: 3}, nil
	}
	if number.MatchString(s) {
		if n, ok := new(big.Int).SetString(s, 10); ok && n.IsInt64() {
			return api.Value{Kind: 1, Int: int(n.Int64())}, nil
		}
		return api.Value{}, api.ErrForm
	}
	if len(s) < 2 || s[0] != '\'' || s[len(s)-1] != '\'' {
		return api.Value{}, api.ErrForm
	}
	var text []byte
	for inner := s[1 : len(s)-1]; inner != ""; inner = inner[1:] {
		if inner[0] == '\'' {
			if inner = inner[1:]; inner == "" || inner[0] != '\'' {
				return api.Value{}, api.ErrForm
			}
		}
		text = append(text, inner[0])
	}
	v := api.Value{Kind: 2, Text: string(text)}
	if validity(v) != nil {
		return api.Value{}, api.ErrForm
	}
	return v, nil
}

// literals are texts that are the Print of a value.
func literals() map[string]api.Value {
	return map[string]api.Value{
		"NULL":                 value.Null(),
		"TRUE":                 value.Bool(true),
		"FALSE":                value.Bool(false),
		"0":                    value.Int(0),
		"7":                    value.Int(7),
		"-7":                   value.Int(-7),
		"100":                  value.Int(100),
		"9223372036854775807":  value.Int(math.MaxInt),
		"-9223372036854775808": value.Int(math.MinInt),
		"''":                   value.Text(""),
		"' '":                  value.Text(" "),
		"'~'":                  value.Text("~"),
		"'a'":                  value.Text("a"),
		"'it''s'":              value.Text("it's"),
		"''''":                 value.Text("'"),
		"''''''":               value.Text("''"),
		"'''a'":                value.Text("'a"),
		"'a'''":                value.Text("a'"),
		"'''a'''":              value.Text("'a'"),
		"'NULL'":               value.Text("NULL"),
		"'0'":                  value.Text("0"),
		"'a'' ''b'":            value.Text("a' 'b"),
		"'" + strings.Repeat("x", api.MaxText) + "'":     value.Text(strings.Repeat("x", api.MaxText)),
		"'" + strings.Repeat("''", api.MaxText) + "'":    value.Text(strings.Repeat("'", api.MaxText)),
		"'" + strings.Repeat("''y", api.MaxText/2) + "'": value.Text(strings.Repeat("'y", api.MaxText/2)),
	}
}

// noLiterals are texts that are the Print of no value.
func noLiterals() []string {
	x := strings.Repeat("x", api.MaxText)
	return []string{
		"", " ", "  ", "\n", "\x00", "a", "x1", "NUL", "NULLL", "null", "Null", "nULL", "true", "True", "TRUe", "false", "False", "FALSe", "TRUEFALSE", "INT", "TEXT", "BOOL", " NULL", "NULL ", "NULL\n", " TRUE", "FALSE ", "\"NULL\"", "NULL\x00",
		"+", "-", "--", "+1", "+0", "-0", "-00", "00", "01", "-01", "007", " 1", "1 ", "1\n", "- 1", "--1", "-+1", "1-", "1.0", "1.", ".5", "1e3", "0x1", "0b1", "0o7", "1_000", "1,000", "1a", "a1", "1'", "'1", "1 2", "٣", "１",
		"9223372036854775808", "-9223372036854775809", "18446744073709551616", "-18446744073709551616", "18446744073709551615", "99999999999999999999", "09223372036854775807", "100000000000000000000000000000000000000000", "inf", "NaN",
		"'", "'''", "'''''", "'a", "a'", "'a''", "''a'", "''a", "a''", "'a'b'", "'a'''b'", "'a' ", " 'a'", "'a'\n", "'a'b", "'a''b", "'''a''", "''''a'", "'a''''", "'a' 'b'", "\"a\"", "`a`", "'a\"", "\"a'", "''''''' ", "'\\''",
		"'\n'", "'\x1f'", "'\x7f'", "'\x80'", "'\x00'", "'é'", "'a\tb'", "\x00'a'", "'a'\x00", "'\xff'",
		"'" + x + "x'", "'" + x + "'''", "'" + strings.Repeat("''", api.MaxText+1) + "'", "'" + x, x + "'", x, "'" + x + "\n'", "'" + x + x + "'", strings.Repeat("'", 2*api.MaxText+1), strings.Repeat("'", 2*api.MaxText+4), strings.Repeat("1", 5000), "-" + strings.Repeat("9", 5000),
	}
}

func TestVA5Parse(t *testing.T) {
	for s, want := range literals() {
		got, err := value.Parse(s)
		answers(t, got, err, want, nil, fmt.Sprintf("Parse(%.40q)", s))
	}
	for _, s := range noLiterals() {
		got, err := value.Parse(s)
		answers(t, got, err, api.Value{}, api.ErrForm, fmt.Sprintf("Parse(%.40q)", s))
	}
}

// Each byte but those of printed texts is refused wherever it stands.
func TestVA5ParseEachByte(t *testing.T) {
	for s := range literals() {
		if len(s) > 40 {
			continue
		}
		for c := range 256 {
			one := string([]byte{byte(c)})
			for i := range len(s) + 1 {
				laid := s[:i] + one + s[i:]
				got, err := value.Parse(laid)
				want, wantErr := parsed(laid)
				answers(t, got, err, want, wantErr, fmt.Sprintf("Parse(%q)", laid))
				if i < len(s) {
					put := s[:i] + one + s[i+1:]
					got, err := value.Parse(put)
					want, wantErr := parsed(put)
					answers(t, got, err, want, wantErr, fmt.Sprintf("Parse(%q)", put))
				}
			}
		}
	}
}

// All short texts of some bytes, of which many are printed and most are not.
func TestVA5ParseAllShortTexts(t *testing.T) {
	bytes := "'-+019a \n"
	list := []string{""}
	for range 6 {
		var next []string
		for _, s := range list {
			got, err := value.Parse(s)
			want, wantErr := parsed(s)
			answers(t, got, err, want, wantErr, fmt.Sprintf("Parse(%q)", s))
			for i := range len(bytes) {
				next = append(next, s+bytes[i:i+1])
			}
		}
		list = next
	}
}

func TestVA6CompareIsAnOrder(t *testing.T) {
	list := few()
	for _, a := range list {
		if n := value.Compare(a, a); n != 0 {
			t.Errorf("%s: %d", call("Compare", a, a), n)
		}
		for _, b := range list {
			ab := value.Compare(a, b)
			if ab < -1 || ab > 1 || value.Compare(b, a) != -ab {
				t.Errorf("%s: %d, and turned round %d", call("Compare", a, b), ab, value.Compare(b, a))
			}
			for _, c := range list {
				bc, ac := value.Compare(b, c), value.Compare(a, c)
				if ab <= 0 && bc <= 0 && (ac > 0 || ac == 0 && (ab != 0 || bc != 0)) {
					t.Fatalf("%s, %s: %d, %d, %d", call("Compare", a, b), short(c), ab, bc, ac)
				}
			}
		}
	}
	// Of values that may be, only the same ones are told to be so.
	for i, a := range valid() {
		for j, b := range valid() {
			if (value.Compare(a, b) == 0) != (a == b) {
				t.Errorf("%s: %d, at %d and %d", call("Compare", a, b), value.Compare(a, b), i, j)
			}
		}
	}
}

// sure is an answer that must not be an error.
func sure(t *testing.T) func(v api.Value, err error) api.Value {
	return func(v api.Value, err error) api.Value {
		t.Helper()
		if err != nil {
			t.Errorf("error %v beside %s", err, short(v))
		}
		return v
	}
}

func TestVA6DeMorgan(t *testing.T) {
	ok := sure(t)
	for _, left := range truths() {
		for _, a := range left {
			if v := ok(value.Not(ok(value.Not(a)))); value.Compare(v, a) != 0 {
				t.Errorf("Not of Not of %s: %s", short(a), short(v))
			}
			for _, right := range truths() {
				for _, b := range right {
					notA, notB := ok(value.Not(a)), ok(value.Not(b))
					if x, y := ok(value.Not(ok(value.And(a, b)))), ok(value.Or(notA, notB)); x != y {
						t.Errorf("Not of %s: %s, but Or of what is turned: %s", call("And", a, b), short(x), short(y))
					}
					if x, y := ok(value.Not(ok(value.Or(a, b)))), ok(value.And(notA, notB)); x != y {
						t.Errorf("Not of %s: %s, but And of what is turned: %s", call("Or", a, b), short(x), short(y))
					}
				}
			}
		}
	}
}

func TestVA6WhatIsPrintedIsReadAsIt(t *testing.T) {
	seen := map[string]api.Value{}
	for _, v := range valid() {
		s, err := value.Print(v)
		if err != nil {
			t.Errorf("Print(%s): %v", short(v), err)
		}
		got, err := value.Parse(s)
		answers(t, got, err, v, nil, fmt.Sprintf("Parse(%.40q)", s))
		if other, twice := seen[s]; twice && other != v {
			t.Errorf("%s and %s are printed alike", short(other), short(v))
		}
		seen[s] = v
	}
	for n := -2000; n <= 2000; n++ {
		s, err := value.Print(value.Int(n))
		if got, again := value.Parse(s); got != value.Int(n) || err != nil || again != nil {
			t.Errorf("%d is printed as %q, and read as %s, %v, %v", n, s, short(got), err, again)
		}
	}
	// And what is read is printed as it was.
	for s := range literals() {
		v, err := value.Parse(s)
		if got, again := value.Print(v); got != s || err != nil || again != nil {
			t.Errorf("%.40q is read as %s, and printed as %.40q, %v, %v", s, short(v), got, err, again)
		}
	}
}

// Each call tells the same each time, and beside an error nothing.
func TestP7Alone(t *testing.T) {
	list := few()
	for name, c := range binary() {
		for _, a := range list {
			for _, b := range list {
				first, err := c.do(a, b)
				second, again := c.do(a, b)
				if first != second || err != again {
					t.Errorf("%s: %s, %v, then %s, %v", call(name, a, b), short(first), err, short(second), again)
				}
				if err != nil && first != (api.Value{}) {
					t.Errorf("%s: %s beside %v", call(name, a, b), short(first), err)
				}
				if err == nil && first.Kind != 2 && value.Valid(first) != nil {
					t.Errorf("%s: %s, which may not be", call(name, a, b), short(first))
				}
			}
		}
	}
	for _, v := range list {
		if s, err := value.Print(v); err != nil && s != "" {
			t.Errorf("Print(%s): %q beside %v", short(v), s, err)
		}
	}
}

func FuzzParse(f *testing.F) {
	for s := range literals() {
		f.Add(s)
	}
	for _, s := range noLiterals() {
		f.Add(s)
	}
	f.Fuzz(func(t *testing.T, s string) {
		got, err := value.Parse(s)
		if want, wantErr := parsed(s); got != want || err != wantErr {
			t.Fatalf("Parse(%q): %s, %v, not %s, %v", s, short(got), err, short(want), wantErr)
		}
		if err == nil {
			if again, err := value.Print(got); again != s || err != nil {
				t.Fatalf("%q is read as %s, and printed as %q, %v", s, short(got), again, err)
			}
		}
		text, err := value.Print(value.Text(s))
		if want, wantErr := printed(api.Value{Kind: 2, Text: s}); text != want || err != wantErr {
			t.Fatalf("Print of the text %q: %q, %v, not %q, %v", s, text, err, want, wantErr)
		}
		if err == nil {
			if again, err := value.Parse(text); again != value.Text(s) || err != nil {
				t.Fatalf("the text %q is printed as %q, and read as %s, %v", s, text, short(again), err)
			}
		}
	})
}

func FuzzReckon(f *testing.F) {
	for _, op := range []byte("+-*/% ") {
		f.Add(op, 0, 0)
		f.Add(op, math.MinInt, -1)
		f.Add(op, math.MaxInt, math.MaxInt)
		f.Add(op, 3037000500, 3037000500)
	}
	f.Fuzz(func(t *testing.T, op byte, a, b int) {
		got, err := value.Reckon(op, value.Int(a), value.Int(b))
		want, wantErr := api.Value{}, error(api.ErrForm)
		if op == '+' || op == '-' || op == '*' || op == '/' || op == '%' {
			want, wantErr = reckoned(op, a, b)
		}
		if got != want || err != wantErr {
			t.Fatalf("Reckon(%q, %d, %d): %s, %v, not %s, %v", op, a, b, short(got), err, short(want), wantErr)
		}
	})
}
