package pack_test

import (
	"bytes"
	"math"
	"math/big"
	"strings"
	"testing"

	"barbican/api"
	"barbican/pack"
)

// numbers are those around each power of 2, of 2^7 among them, and the least and the greatest ones.
func numbers() []uint64 {
	out := []uint64{0, 1, 2, 3, 300, 1000000, 0x5555555555555555, 0xAAAAAAAAAAAAAAAA, math.MaxUint64 - 1, math.MaxUint64}
	for i := range 64 {
		power := uint64(1) << i
		out = append(out, power-1, power, power+1)
	}
	return out
}

// signed are the same with a sign, on both sides of 0, with the least and the greatest int.
func signed() []int {
	out := []int{math.MinInt, math.MinInt + 1, math.MaxInt - 1, math.MaxInt}
	for _, n := range numbers() {
		out = append(out, int(n), -int(n))
	}
	return out
}

// texts are of all lengths at which the length takes another byte, and of bytes that are no runes.
func texts() []string {
	out := []string{"", "a", "\x00", "\xff", "\x80\x00", "é", "a text", "\n\r\t "}
	for _, n := range []int{126, 127, 128, 129, api.MaxText - 1, api.MaxText, api.MaxText + 1, 1<<14 - 1, 1 << 14, 1<<14 + 1, 1<<21 - 1, 1 << 21} {
		out = append(out, strings.Repeat("xyz\x80", n/4+1)[:n])
	}
	return out
}

// heads are what may stand ahead of what is laid, and tails what may stand behind.
func heads() [][]byte {
	return [][]byte{nil, {}, {0}, {128}, {1, 2, 3}, bytes.Repeat([]byte{255}, 300)}
}

func tails() [][]byte {
	return [][]byte{nil, {0}, {1}, {127}, {128}, {255}, {0, 0, 0}, bytes.Repeat([]byte{129}, 20)}
}

// groups are a number's bytes by the words of PK1: by division, not by shifts.
func groups(n *big.Int) []byte {
	rest, base := new(big.Int).Set(n), big.NewInt(128)
	var out []byte
	for {
		low := new(big.Int)
		rest.DivMod(rest, base, low)
		if rest.Sign() == 0 {
			return append(out, byte(low.Int64()))
		}
		out = append(out, byte(low.Int64())+128)
	}
}

func groupsOf(n uint64) []byte { return groups(new(big.Int).SetUint64(n)) }

// doubled is 2 n, or -2 n - 1 where n is below 0.
func doubled(n int) *big.Int {
	out := new(big.Int).Mul(big.NewInt(int64(n)), big.NewInt(2))
	if n < 0 {
		out.Neg(out)
		out.Sub(out, big.NewInt(1))
	}
	return out
}

// readUint is Uint by the words of PK1, with numbers that have no bound.
func readUint(b []byte) (uint64, int, error) {
	size := 0
	for size < 10 {
		if size == len(b) {
			return 0, 0, api.ErrEnd
		}
		size++
		if b[size-1] < 128 {
			break
		}
	}
	last := b[size-1]
	if last >= 128 || last == 0 && size > 1 {
		return 0, 0, api.ErrForm
	}
	n := new(big.Int)
	for i := size - 1; i >= 0; i-- {
		n.Mul(n, big.NewInt(128))
		n.Add(n, big.NewInt(int64(b[i]%128)))
	}
	if !n.IsUint64() {
		return 0, 0, api.ErrForm
	}
	return n.Uint64(), size, nil
}

// join is some bytes one behind the other, in new memory without spare room.
func join(parts ...[]byte) []byte { return bytes.Join(parts, nil) }

// flags are n bytes with the bit 128 set.
func flags(n int) []byte { return bytes.Repeat([]byte{128}, n) }

func TestPK1AppendUint(t *testing.T) {
	for _, c := range []struct {
		n    uint64
		want []byte
	}{
		{0, []byte{0}},
		{1, []byte{1}},
		{127, []byte{127}},
		{128, []byte{128, 1}},
		{129, []byte{129, 1}},
		{255, []byte{255, 1}},
		{300, []byte{172, 2}},
		{1<<14 - 1, []byte{255, 127}},
		{1 << 14, []byte{128, 128, 1}},
		{1 << 63, []byte{128, 128, 128, 128, 128, 128, 128, 128, 128, 1}},
		{1<<63 - 1, []byte{255, 255, 255, 255, 255, 255, 255, 255, 127}},
		{math.MaxUint64, []byte{255, 255, 255, 255, 255, 255, 255, 255, 255, 1}},
	} {
		if b := pack.AppendUint(nil, c.n); !bytes.Equal(b, c.want) {
			t.Errorf("AppendUint(nil, %d): %v, not %v", c.n, b, c.want)
		}
	}
	for _, n := range numbers() {
		for _, head := range heads() {
			if b, want := pack.AppendUint(head, n), join(head, groupsOf(n)); !bytes.Equal(b, want) {
				t.Errorf("AppendUint(%v, %d): %v, not %v", head, n, b, want)
			}
		}
	}
}

func TestPK1Len(t *testing.T) {
	for _, c := range []struct {
		n    uint64
		want int
	}{
		{0, 1}, {1, 1}, {127, 1}, {128, 2}, {1<<14 - 1, 2}, {1 << 14, 3}, {1<<63 - 1, 9}, {1 << 63, 10}, {math.MaxUint64, 10},
	} {
		if n := pack.Len(c.n); n != c.want {
			t.Errorf("Len(%d): %d, not %d", c.n, n, c.want)
		}
	}
	for _, n := range numbers() {
		if size, want := pack.Len(n), len(groupsOf(n)); size != want {
			t.Errorf("Len(%d): %d, not %d", n, size, want)
		}
	}
}

func TestPK1Uint(t *testing.T) {
	for _, c := range []struct {
		b    []byte
		n    uint64
		size int
	}{
		{[]byte{0}, 0, 1},
		{[]byte{0, 0}, 0, 1},
		{[]byte{0, 128}, 0, 1},
		{[]byte{127}, 127, 1},
		{[]byte{128, 1}, 128, 2},
		{[]byte{172, 2}, 300, 2},
		{[]byte{172, 2, 172, 2}, 300, 2},
		{[]byte{128, 128, 1}, 1 << 14, 3},
		{join(flags(8), []byte{1}), 1 << 56, 9},
		{join(flags(9), []byte{1}), 1 << 63, 10},
		{join(flags(9), []byte{1}, flags(9)), 1 << 63, 10},
		{[]byte{255, 255, 255, 255, 255, 255, 255, 255, 127}, 1<<63 - 1, 9},
		{[]byte{255, 255, 255, 255, 255, 255, 255, 255, 255, 1}, math.MaxUint64, 10},
	} {
		if n, size, err := pack.Uint(c.b); n != c.n || size != c.size || err != nil {
			t.Errorf("Uint(%v): %d, %d, %v, not %d, %d", c.b, n, size, err, c.n, c.size)
		}
	}
	for _, n := range numbers() {
		for _, tail := range tails() {
			b := join(groupsOf(n), tail)
			if got, size, err := pack.Uint(b); got != n || size != len(groupsOf(n)) || err != nil {
				t.Errorf("Uint(%v): %d, %d, %v, not %d", b, got, size, err, n)
			}
		}
	}
}

// badNumbers are bytes that begin with no number, each with Uint's error.
func badNumbers() map[string]error {
	out := map[string]error{
		"":                         api.ErrEnd,
		"\xff":                     api.ErrEnd,
		"\x80\x00":                 api.ErrForm,
		"\x80\x00\x01":             api.ErrForm,
		"\xff\x00":                 api.ErrForm,
		"\x80\x80\x00":             api.ErrForm,
		"\xff\xff\xff\xff\xff\x00": api.ErrForm,
	}
	for n := 1; n < 10; n++ {
		out[string(flags(n))] = api.ErrEnd
		out[strings.Repeat("\xff", n)] = api.ErrEnd
		out[string(flags(n))+"\x00"] = api.ErrForm
		out[string(flags(n))+"\x00\x80"] = api.ErrForm
	}
	for n := 10; n < 13; n++ {
		for _, end := range []string{"", "\x00", "\x01", "\x7f", "\x80"} {
			out[string(flags(n))+end] = api.ErrForm
			out[strings.Repeat("\xff", n)+end] = api.ErrForm
		}
	}
	for last := 2; last < 256; last++ {
		out[string(flags(9))+string([]byte{byte(last)})] = api.ErrForm
		out[strings.Repeat("\xff", 9)+string([]byte{byte(last)})+"\x01"] = api.ErrForm
	}
	return out
}

func TestPK1UintRefuses(t *testing.T) {
	for b, want := range badNumbers() {
		if n, size, err := pack.Uint([]byte(b)); n != 0 || size != 0 || err != want {
			t.Errorf("Uint(%v): %d, %d, %v, not %v", []byte(b), n, size, err, want)
		}
	}
	if n, size, err := pack.Uint(nil); n != 0 || size != 0 || err != api.ErrEnd {
		t.Errorf("Uint(nil): %d, %d, %v, not ErrEnd", n, size, err)
	}
}

// Room behind the bytes that are handed in is none of them, even where the rest of a number lies there.
func TestPK1UintReadsNoRoom(t *testing.T) {
	b := []byte{172, 2}
	if n, size, err := pack.Uint(b[:1]); n != 0 || size != 0 || err != api.ErrEnd {
		t.Errorf("Uint(%v): %d, %d, %v, not ErrEnd", b[:1], n, size, err)
	}
	s := pack.AppendText(nil, "text")
	if text, size, err := pack.Text(s[:3], 9); text != "" || size != 0 || err != api.ErrEnd {
		t.Errorf("Text(%v): %q, %d, %v, not ErrEnd", s[:3], text, size, err)
	}
}

// All bytes of up to three, and all that are ten of a few kinds each, are read by the words.
func TestPK1UintByTheWords(t *testing.T) {
	same := func(b []byte) {
		n, size, err := pack.Uint(b)
		wantN, wantSize, want := readUint(b)
		if n != wantN || size != wantSize || err != want {
			t.Fatalf("Uint(%v): %d, %d, %v, not %d, %d, %v", b, n, size, err, wantN, wantSize, want)
		}
	}
	kinds := []byte{0, 1, 2, 3, 64, 126, 127, 128, 129, 192, 254, 255}
	for i := range 256 {
		same([]byte{byte(i)})
		for j := range 256 {
			same([]byte{byte(i), byte(j)})
			for _, k := range kinds {
				same([]byte{byte(i), byte(j), k})
			}
		}
	}
	for _, first := range []byte{128, 129, 254, 255} {
		for n := range 12 {
			for _, k := range kinds {
				for _, end := range kinds {
					same(join([]byte{first}, flags(n), []byte{k, end}))
					same(join([]byte{first}, bytes.Repeat([]byte{255}, n), []byte{k, end}))
				}
			}
		}
	}
}

func TestPK2AppendInt(t *testing.T) {
	for _, c := range []struct {
		n    int
		want []byte
	}{
		{0, []byte{0}},
		{-1, []byte{1}},
		{1, []byte{2}},
		{-2, []byte{3}},
		{63, []byte{126}},
		{-64, []byte{127}},
		{64, []byte{128, 1}},
		{-65, []byte{129, 1}},
		{math.MaxInt, []byte{254, 255, 255, 255, 255, 255, 255, 255, 255, 1}},
		{math.MinInt, []byte{255, 255, 255, 255, 255, 255, 255, 255, 255, 1}},
	} {
		if b := pack.AppendInt(nil, c.n); !bytes.Equal(b, c.want) {
			t.Errorf("AppendInt(nil, %d): %v, not %v", c.n, b, c.want)
		}
	}
	for _, n := range signed() {
		for _, head := range heads() {
			if b, want := pack.AppendInt(head, n), join(head, groups(doubled(n))); !bytes.Equal(b, want) {
				t.Errorf("AppendInt(%v, %d): %v, not %v", head, n, b, want)
			}
		}
	}
}

func TestPK2Int(t *testing.T) {
	for _, n := range signed() {
		laid := groups(doubled(n))
		for _, tail := range tails() {
			b := join(laid, tail)
			if got, size, err := pack.Int(b); got != n || size != len(laid) || err != nil {
				t.Errorf("Int(%v): %d, %d, %v, not %d, %d", b, got, size, err, n, len(laid))
			}
		}
	}
}

func TestPK2IntRefuses(t *testing.T) {
	for b, want := range badNumbers() {
		if n, size, err := pack.Int([]byte(b)); n != 0 || size != 0 || err != want {
			t.Errorf("Int(%v): %d, %d, %v, not %v", []byte(b), n, size, err, want)
		}
	}
	if n, size, err := pack.Int(nil); n != 0 || size != 0 || err != api.ErrEnd {
		t.Errorf("Int(nil): %d, %d, %v, not ErrEnd", n, size, err)
	}
}

func TestPK3AppendText(t *testing.T) {
	if b, want := pack.AppendText([]byte{9}, "ab"), []byte{9, 2, 'a', 'b'}; !bytes.Equal(b, want) {
		t.Errorf("AppendText(9, ab): %v, not %v", b, want)
	}
	if b, want := pack.AppendText(nil, ""), []byte{0}; !bytes.Equal(b, want) {
		t.Errorf("AppendText(nil, the empty text): %v, not %v", b, want)
	}
	for _, s := range texts() {
		for _, head := range heads() {
			if b, want := pack.AppendText(head, s), join(head, groupsOf(uint64(len(s))), []byte(s)); !bytes.Equal(b, want) {
				t.Errorf("AppendText behind %d bytes, of %d: %d bytes, not %d, or others", len(head), len(s), len(b), len(want))
			}
		}
	}
}

func TestPK3Text(t *testing.T) {
	for _, s := range texts() {
		laid := join(groupsOf(uint64(len(s))), []byte(s))
		for _, tail := range tails() {
			for _, most := range []int{len(s), len(s) + 1, math.MaxInt} {
				if got, size, err := pack.Text(join(laid, tail), most); got != s || size != len(laid) || err != nil {
					t.Errorf("Text of %d bytes, at most %d: %d bytes, %d, %v", len(s), most, len(got), size, err)
				}
			}
		}
	}
	if s, size, err := pack.Text([]byte{0}, 0); s != "" || size != 1 || err != nil {
		t.Errorf("Text(0, 0): %q, %d, %v", s, size, err)
	}
}

func TestPK3TextRefuses(t *testing.T) {
	type wrong struct {
		b    []byte
		most int
		want error
	}
	cases := []wrong{
		// A most below 0 is told ahead of all else.
		{nil, -1, api.ErrArg},
		{[]byte{0}, -1, api.ErrArg},
		{[]byte{128, 0}, -1, api.ErrArg},
		{[]byte{128}, -1, api.ErrArg},
		{[]byte{5, 'a'}, -1, api.ErrArg},
		{[]byte{1, 'a'}, math.MinInt, api.ErrArg},
		// A length above most is told where bytes are missing too.
		{[]byte{1}, 0, api.ErrLong},
		{[]byte{1, 'a'}, 0, api.ErrLong},
		{[]byte{3, 'a', 'b', 'c'}, 2, api.ErrLong},
		{[]byte{3, 'a'}, 2, api.ErrLong},
		{pack.AppendUint(nil, api.MaxText+1), api.MaxText, api.ErrLong},
		{pack.AppendUint(nil, 1<<63), math.MaxInt, api.ErrLong},
		{pack.AppendUint(nil, math.MaxUint64), math.MaxInt, api.ErrLong},
		{pack.AppendUint(nil, math.MaxUint64), 0, api.ErrLong},
		// One that may be has to be there in whole.
		{[]byte{1}, 1, api.ErrEnd},
		{[]byte{3, 'a', 'b'}, 3, api.ErrEnd},
		{[]byte{3, 'a', 'b'}, math.MaxInt, api.ErrEnd},
		{[]byte{2, 'a'}, 2, api.ErrEnd},
		{pack.AppendUint(nil, api.MaxText), api.MaxText, api.ErrEnd},
		{pack.AppendUint(nil, math.MaxInt), math.MaxInt, api.ErrEnd},
		{append(pack.AppendUint(nil, math.MaxInt), 'a'), math.MaxInt, api.ErrEnd},
		{append(pack.AppendUint(nil, math.MaxInt-8), 'a'), math.MaxInt, api.ErrEnd},
	}
	for b, want := range badNumbers() {
		cases = append(cases, wrong{[]byte(b), 0, want}, wrong{[]byte(b), math.MaxInt, want}, wrong{[]byte(b), -1, api.ErrArg})
	}
	for _, text := range texts() {
		laid := pack.AppendText(nil, text)
		if len(text) > 0 {
			cases = append(cases, wrong{laid, len(text) - 1, api.ErrLong}, wrong{laid[:len(laid)-1], len(text), api.ErrEnd})
		}
	}
	for _, c := range cases {
		if s, size, err := pack.Text(c.b, c.most); s != "" || size != 0 || err != c.want {
			t.Errorf("Text of %d bytes, %v and so on, at most %d: %d bytes, %d, %v, not %v", len(c.b), c.b[:min(len(c.b), 12)], c.most, len(s), size, err, c.want)
		}
	}
}

func TestPK4ReadAsLaid(t *testing.T) {
	var b []byte
	for i, s := range texts() {
		b = pack.AppendUint(b, numbers()[i])
		b = pack.AppendInt(b, signed()[i])
		b = pack.AppendText(b, s)
	}
	whole, again := b, []byte(nil)
	for i, s := range texts() {
		u, size, err := pack.Uint(b)
		if u != numbers()[i] || err != nil {
			t.Fatalf("Uint: %d, %v, not %d", u, err, numbers()[i])
		}
		b = b[size:]
		n, size, err := pack.Int(b)
		if n != signed()[i] || err != nil {
			t.Fatalf("Int: %d, %v, not %d", n, err, signed()[i])
		}
		b = b[size:]
		text, size, err := pack.Text(b, len(s))
		if text != s || err != nil {
			t.Fatalf("Text: %d bytes, %v, not %d", len(text), err, len(s))
		}
		b = b[size:]
		again = pack.AppendText(pack.AppendInt(pack.AppendUint(again, u), n), text)
	}
	if len(b) != 0 {
		t.Errorf("%d bytes are left", len(b))
	}
	if !bytes.Equal(again, whole) {
		t.Error("what was read, laid again, are other bytes")
	}
}

// relaid tells where bytes that are read as something are not the ones that it is laid as.
func relaid(t *testing.T, b []byte, most int) {
	t.Helper()
	if n, size, err := pack.Uint(b); err == nil {
		if again := pack.AppendUint(nil, n); !bytes.Equal(again, b[:size]) || pack.Len(n) != size {
			t.Errorf("Uint(%v): %d of %d bytes, laid again %v", b, n, size, again)
		}
	}
	if n, size, err := pack.Int(b); err == nil {
		if again := pack.AppendInt(nil, n); !bytes.Equal(again, b[:size]) {
			t.Errorf("Int(%v): %d of %d bytes, laid again %v", b, n, size, again)
		}
	}
	if s, size, err := pack.Text(b, most); err == nil {
		if again := pack.AppendText(nil, s); !bytes.Equal(again, b[:size]) || len(s) > most {
			t.Errorf("Text(%v, %d): %q of %d bytes, laid again %v", b, most, s, size, again)
		}
	}
}

func TestPK4LaidAsRead(t *testing.T) {
	for i := range 256 {
		for j := range 256 {
			for _, end := range []string{"", "\x00", "\x01", "\x80", "\x80\x01abc"} {
				relaid(t, append([]byte{byte(i), byte(j)}, end...), 200)
			}
		}
	}
	for b := range badNumbers() {
		relaid(t, []byte(b), math.MaxInt)
	}
}

// What a caller has behind its bytes stays, and nothing that it does to them later is seen in an answer.
func TestPK4NewMemory(t *testing.T) {
	for name, lay := range map[string]func([]byte) []byte{
		"AppendUint": func(b []byte) []byte { return pack.AppendUint(b, 300) },
		"AppendInt":  func(b []byte) []byte { return pack.AppendInt(b, -300) },
		"AppendText": func(b []byte) []byte { return pack.AppendText(b, "text") },
	} {
		for n := range 5 {
			whole := bytes.Repeat([]byte{7}, 40)
			first := lay(whole[:n])
			second := lay(whole[:n])
			if !bytes.Equal(whole, bytes.Repeat([]byte{7}, 40)) {
				t.Errorf("%s behind %d bytes changed what was handed in: %v", name, n, whole)
			}
			if !bytes.Equal(first[:n], whole[:n]) {
				t.Errorf("%s behind %d bytes: %v", name, n, first)
			}
			want := bytes.Clone(second)
			clear(whole)
			clear(first[:cap(first)])
			if !bytes.Equal(second, want) {
				t.Errorf("%s behind %d bytes shares memory: %v, not %v", name, n, second, want)
			}
		}
	}
	b := pack.AppendText(nil, "text")
	s, _, err := pack.Text(b, 4)
	clear(b)
	if s != "text" || err != nil {
		t.Errorf("Text shares the memory of its bytes: %q, %v", s, err)
	}
}

// Reading changes nothing, where it answers and where it refuses.
func TestPK4ReadsAlone(t *testing.T) {
	for b := range badNumbers() {
		whole := []byte(b + "\x04text\x80")
		want := bytes.Clone(whole)
		for n := range len(whole) + 1 {
			pack.Uint(whole[:n])
			pack.Int(whole[:n])
			pack.Text(whole[:n], 4)
		}
		if !bytes.Equal(whole, want) {
			t.Fatalf("%v were changed to %v", want, whole)
		}
	}
}

func FuzzRead(f *testing.F) {
	for _, n := range numbers() {
		f.Add(pack.AppendUint(nil, n), int(n))
	}
	for b := range badNumbers() {
		f.Add([]byte(b), 9)
	}
	f.Add([]byte("\x04text"), 4)
	f.Add([]byte("\x04text"), 3)
	f.Add([]byte("\x04tex"), 4)
	f.Fuzz(func(t *testing.T, b []byte, most int) {
		n, size, err := pack.Uint(b)
		wantN, wantSize, want := readUint(b)
		if n != wantN || size != wantSize || err != want {
			t.Fatalf("Uint(%v): %d, %d, %v, not %d, %d, %v", b, n, size, err, wantN, wantSize, want)
		}
		if _, _, err := pack.Int(b); err != want {
			t.Fatalf("Int(%v): %v, not %v", b, err, want)
		}
		switch {
		case most < 0:
			want = api.ErrArg
		case want != nil:
		case wantN > uint64(most):
			want = api.ErrLong
		case wantN > uint64(len(b)-wantSize):
			want = api.ErrEnd
		}
		if _, _, err := pack.Text(b, most); err != want {
			t.Fatalf("Text(%v, %d): %v, not %v", b, most, err, want)
		}
		relaid(t, b, most)
	})
}
