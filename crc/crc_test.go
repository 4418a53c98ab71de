package crc_test

import (
	"bytes"
	"math"
	"testing"

	"barbican/api"
	"barbican/crc"
)

// divided is a number by the words of the chapter: divided by so many bits.
func divided(n uint32, bits int) uint32 {
	for range bits {
		odd := n%2 == 1
		n /= 2
		if odd {
			n ^= 0xedb88320
		}
	}
	return n
}

// updated is Update by the words of CR1: bit by bit, without any array.
func updated(sum uint32, b []byte) uint32 {
	state := sum ^ math.MaxUint32
	for _, c := range b {
		state = divided(state^uint32(c), 8)
	}
	return state ^ math.MaxUint32
}

// sealed is Seal by the words of CR2, with the sum's bytes found by division.
func sealed(b []byte) []byte {
	sum := updated(0, b)
	return join(b, []byte{byte(sum / (1 << 24)), byte(sum / (1 << 16) % 256), byte(sum / (1 << 8) % 256), byte(sum % 256)})
}

// join is some bytes one behind the other, in new memory.
func join(parts ...[]byte) []byte { return bytes.Join(parts, nil) }

// mixer tells numbers in no order that can be seen, always the same ones.
type mixer uint64

func (m *mixer) next() uint32 {
	*m = *m*6364136223846793005 + 1442695040888963407
	return uint32(*m >> 32)
}

// mixed are n bytes in no order that can be seen.
func mixed(n int) []byte {
	m := mixer(n)
	out := make([]byte, n)
	for i := range out {
		out[i] = byte(m.next() >> 24)
	}
	return out
}

// inputs are bytes of many lengths: none at all, one, those around four and around a sector, and long ones.
func inputs() [][]byte {
	out := [][]byte{nil, {}, {0}, {1}, {127}, {128}, {255}, {255, 255, 255, 255, 0}, []byte("123456789")}
	for _, n := range []int{2, 3, 4, 5, 7, 8, 9, 31, 32, 33, 63, 64, 65, 255, 256, 257, 1000, 4096} {
		out = append(out, make([]byte, n), bytes.Repeat([]byte{255}, n), mixed(n))
	}
	return out
}

// sums are some to go on from: the least and the greatest one, each bit alone, all but one.
func sums() []uint32 {
	out := []uint32{0, math.MaxUint32, 0xcbf43926, 0xedb88320, 0x55555555, 0xaaaaaaaa}
	for i := range 32 {
		out = append(out, 1<<i, ^uint32(1<<i))
	}
	return out
}

func TestCR1Remainder(t *testing.T) {
	for _, c := range []struct {
		c    byte
		want uint32
	}{
		{0, 0}, {1, 0x77073096}, {2, 0xee0e612c}, {3, 0x990951ba}, {16, 0x1db71064}, {127, 0xc0ba6cad}, {128, 0xedb88320}, {254, 0x5a05df1b}, {255, 0x2d02ef8d},
	} {
		if n := crc.Remainder(c.c); n != c.want {
			t.Errorf("Remainder(%d): %x, not %x", c.c, n, c.want)
		}
	}
	for i := range 256 {
		if n, want := crc.Remainder(byte(i)), divided(uint32(i), 8); n != want {
			t.Errorf("Remainder(%d): %x, not %x", i, n, want)
		}
	}
}

func TestCR1Sum(t *testing.T) {
	all := make([]byte, 256)
	for i := range all {
		all[i] = byte(i)
	}
	for _, c := range []struct {
		b    string
		want uint32
	}{
		{"", 0},
		{"\x00", 0xd202ef8d},
		{"\xff", 0xff000000},
		{"\x00\x00\x00\x00", 0x2144df1c},
		{"\xff\xff\xff\xff", 0xffffffff},
		{"a", 0xe8b7be43},
		{"abc", 0x352441c2},
		{"123456789", 0xcbf43926},
		{"The quick brown fox jumps over the lazy dog", 0x414fa339},
		{string(make([]byte, 32)), 0x190a55ad},
		{string(all), 0x29058c73},
	} {
		if n := crc.Sum([]byte(c.b)); n != c.want {
			t.Errorf("Sum(%q): %x, not %x", c.b, n, c.want)
		}
	}
	if n := crc.Sum(nil); n != 0 {
		t.Errorf("Sum(nil): %x, not 0", n)
	}
	for _, b := range inputs() {
		if n, want := crc.Sum(b), updated(0, b); n != want {
			t.Errorf("Sum of %d bytes: %x, not %x", len(b), n, want)
		}
		if n, want := crc.Sum(b), crc.Update(0, b); n != want {
			t.Errorf("Sum of %d bytes: %x, but Update from 0: %x", len(b), n, want)
		}
	}
}

func TestCR1Update(t *testing.T) {
	for _, sum := range sums() {
		if n := crc.Update(sum, nil); n != sum {
			t.Errorf("Update(%x, nil): %x", sum, n)
		}
		for _, b := range inputs() {
			if n, want := crc.Update(sum, b), updated(sum, b); n != want {
				t.Errorf("Update(%x, %d bytes): %x, not %x", sum, len(b), n, want)
			}
		}
	}
	// From the greatest sum the state is 0: there a byte leaves its remainder, with all bits turned.
	for i := range 256 {
		if n, want := crc.Update(math.MaxUint32, []byte{byte(i)}), ^crc.Remainder(byte(i)); n != want {
			t.Errorf("Update(the greatest sum, %d): %x, not %x", i, n, want)
		}
	}
}

// Each byte goes on from each lowest byte of a state, and from different ones above it.
func TestCR1UpdateEachByte(t *testing.T) {
	for c := range 256 {
		for low := range 256 {
			for _, high := range []uint32{0, 0xffffff00, 0x80000100, 0x5a3c9600} {
				sum, b := high|uint32(low), []byte{byte(c)}
				if n, want := crc.Update(sum, b), updated(sum, b); n != want {
					t.Fatalf("Update(%x, %v): %x, not %x", sum, b, n, want)
				}
			}
		}
	}
}

func TestCR2Seal(t *testing.T) {
	for _, c := range []struct {
		b    string
		want string
	}{
		{"", "\x00\x00\x00\x00"},
		{"\x00", "\x00\xd2\x02\xef\x8d"},
		{"a", "a\xe8\xb7\xbe\x43"},
		{"123456789", "123456789\xcb\xf4\x39\x26"},
	} {
		if b := crc.Seal([]byte(c.b)); string(b) != c.want {
			t.Errorf("Seal(%q): %q, not %q", c.b, b, c.want)
		}
	}
	for _, b := range inputs() {
		if got, want := crc.Seal(b), sealed(b); !bytes.Equal(got, want) {
			t.Errorf("Seal of %d bytes: %d bytes, not %d, or others", len(b), len(got), len(want))
		}
	}
}

func TestCR2Open(t *testing.T) {
	for _, c := range []struct {
		b    string
		want string
	}{
		{"\x00\x00\x00\x00", ""},
		{"\x00\xd2\x02\xef\x8d", "\x00"},
		{"\xff\xff\xff\xff\xff\xff\xff\xff", "\xff\xff\xff\xff"},
		{"123456789\xcb\xf4\x39\x26", "123456789"},
	} {
		if b, err := crc.Open([]byte(c.b)); string(b) != c.want || err != nil {
			t.Errorf("Open(%q): %q, %v, not %q", c.b, b, err, c.want)
		}
	}
	for _, b := range inputs() {
		if got, err := crc.Open(sealed(b)); !bytes.Equal(got, b) || err != nil {
			t.Errorf("Open of %d bytes: %d bytes, or others, %v", len(b)+4, len(got), err)
		}
	}
}

// refused tells where bytes are opened, or refused in another way.
func refused(t *testing.T, b []byte, want error) {
	t.Helper()
	if got, err := crc.Open(b); len(got) != 0 || err != want {
		t.Errorf("Open of %d bytes, %v and so on: %d bytes, %v, not %v", len(b), b[:min(len(b), 12)], len(got), err, want)
	}
}

// What is too short is told as ended, whatever its last bytes would be the sum of.
func TestCR2OpenRefusesWhatIsTooShort(t *testing.T) {
	refused(t, nil, api.ErrEnd)
	refused(t, []byte{}, api.ErrEnd)
	for n := 1; n < 4; n++ {
		refused(t, make([]byte, n), api.ErrEnd)
		refused(t, bytes.Repeat([]byte{255}, n), api.ErrEnd)
		refused(t, mixed(n), api.ErrEnd)
	}
	for i := range 256 {
		refused(t, []byte{byte(i)}, api.ErrEnd)
	}
	// Room behind the bytes that are handed in is none of them, even where the rest of a sum lies there.
	for _, whole := range [][]byte{make([]byte, 8), sealed([]byte("a"))} {
		for n := range 4 {
			refused(t, whole[:n], api.ErrEnd)
		}
	}
}

func TestCR2OpenRefusesAnotherSum(t *testing.T) {
	for i := range 4 {
		for c := 1; c < 256; c++ {
			four := make([]byte, 4)
			four[i] = byte(c)
			refused(t, four, api.ErrSum)
		}
	}
	refused(t, []byte{255, 255, 255, 255}, api.ErrSum)
	for _, b := range inputs() {
		whole := sealed(b)
		for i := range 32 {
			refused(t, turned(whole, len(b)*8+i), api.ErrSum)
		}
		refused(t, join(whole, []byte{0}), api.ErrSum)
		refused(t, join(b, []byte{1, 2, 3, 4}), api.ErrSum)
	}
	whole := sealed([]byte("123456789"))
	for n := 4; n < len(whole); n++ {
		refused(t, whole[:n], api.ErrSum)
	}
	for n := 1; n <= len(whole)-4; n++ {
		refused(t, whole[n:], api.ErrSum)
	}
}

// The sum's bytes stand in one order alone.
func TestCR2OpenRefusesAnotherOrder(t *testing.T) {
	text := []byte("123456789")
	sum := sealed(text)[len(text):]
	for order := range 256 {
		places := []int{order % 4, order / 4 % 4, order / 16 % 4, order / 64}
		tail := []byte{sum[places[0]], sum[places[1]], sum[places[2]], sum[places[3]]}
		if bytes.Equal(tail, sum) {
			continue
		}
		refused(t, join(text, tail), api.ErrSum)
	}
}

func TestCR3HoweverCut(t *testing.T) {
	for _, b := range inputs() {
		if len(b) > 300 {
			continue
		}
		want := crc.Sum(b)
		one := uint32(0)
		for i := range len(b) + 1 {
			if n := crc.Update(crc.Sum(b[:i]), b[i:]); n != want {
				t.Fatalf("%d bytes, cut at %d: %x, not %x", len(b), i, n, want)
			}
			middle := i + (len(b)-i)/2
			if n := crc.Update(crc.Update(crc.Sum(b[:i]), b[i:middle]), b[middle:]); n != want {
				t.Fatalf("%d bytes, cut at %d and %d: %x, not %x", len(b), i, middle, n, want)
			}
			if i < len(b) {
				one = crc.Update(one, b[i:i+1])
			}
		}
		if one != want {
			t.Errorf("%d bytes, one by one: %x, not %x", len(b), one, want)
		}
	}
	b := mixed(20)
	for _, sum := range sums() {
		for i := range len(b) + 1 {
			if n, want := crc.Update(crc.Update(sum, b[:i]), b[i:]), crc.Update(sum, b); n != want {
				t.Fatalf("from %x, cut at %d: %x, not %x", sum, i, n, want)
			}
		}
	}
}

func TestCR3OpenedAsSealed(t *testing.T) {
	for _, b := range inputs() {
		whole := crc.Seal(b)
		if got, err := crc.Open(whole); !bytes.Equal(got, b) || err != nil {
			t.Errorf("%d bytes, sealed and opened: %d bytes, or others, %v", len(b), len(got), err)
		}
		if got, err := crc.Open(crc.Seal(whole)); !bytes.Equal(got, whole) || err != nil {
			t.Errorf("%d bytes, sealed twice and opened: %d bytes, or others, %v", len(b), len(got), err)
		}
	}
	for i := range 256 {
		for j := range 256 {
			b := []byte{byte(i), byte(j)}
			if got, err := crc.Open(crc.Seal(b)); !bytes.Equal(got, b) || err != nil {
				t.Fatalf("%v, sealed and opened: %v, %v", b, got, err)
			}
		}
	}
}

// turned is a copy of b with the bits at some places turned: bits are counted as they are divided, from each byte's bit 0 on.
func turned(b []byte, places ...int) []byte {
	out := bytes.Clone(b)
	for _, i := range places {
		out[i/8] ^= 1 << (i % 8)
	}
	return out
}

// within are the places, from one on, whose bits are set in some.
func within(from int, some uint32) []int {
	var out []int
	for i := range 32 {
		if some>>i&1 == 1 {
			out = append(out, from+i)
		}
	}
	return out
}

// patterns are bits to be turned within 32 neighbouring ones: each alone, each two, all of them, all but one, and many more.
func patterns() []uint32 {
	out := []uint32{math.MaxUint32, 0xedb88320, 0x55555555, 0xaaaaaaaa, 0x80000001, 0xffff0000, 0x0000ffff}
	for i := range 32 {
		out = append(out, 1<<i, ^uint32(1<<i))
		for j := range i {
			out = append(out, 1<<i|1<<j)
		}
	}
	m := mixer(1)
	for range 200 {
		out = append(out, m.next(), m.next()&m.next(), m.next()|m.next())
	}
	return out
}

func TestCR3TurnedIsNotOpened(t *testing.T) {
	for _, n := range []int{4, 5, 6, 9, 16} {
		for _, b := range [][]byte{make([]byte, n), bytes.Repeat([]byte{255}, n), mixed(n)} {
			whole := crc.Seal(b)
			for from := range n*8 - 31 {
				for _, some := range patterns() {
					if some != 0 {
						refused(t, turned(whole, within(from, some)...), api.ErrSum)
					}
				}
			}
		}
	}
}

// Of long bytes each single bit is turned, and all 32 neighbouring ones at once.
func TestCR3TurnedIsNotOpenedWhereItIsLong(t *testing.T) {
	for _, n := range []int{64, 1000} {
		whole := crc.Seal(mixed(n))
		for i := range n * 8 {
			refused(t, turned(whole, i), api.ErrSum)
		}
		for from := range n*8 - 31 {
			refused(t, turned(whole, within(from, math.MaxUint32)...), api.ErrSum)
		}
	}
}

// Bytes of fewer than 32 bits are refused whichever of them are turned.
func TestCR3TurnedIsNotOpenedWhereItIsShort(t *testing.T) {
	for n := 1; n <= 2; n++ {
		whole := crc.Seal(mixed(n))
		for some := uint32(1); some < 1<<(8*n); some++ {
			refused(t, turned(whole, within(0, some)...), api.ErrSum)
		}
	}
	whole := crc.Seal(mixed(3))
	for _, some := range patterns() {
		if some %= 1 << 24; some != 0 {
			refused(t, turned(whole, within(0, some)...), api.ErrSum)
		}
	}
}

// Whichever bits are turned within 32 neighbouring ones, the sum is another one: what turned bits do to a sum is what each of them does, xored, and no choice of the 32 comes to nothing.
func TestCR3NoTurnedBitsAreMissed(t *testing.T) {
	const n = 16
	b := mixed(n)
	for from := range n*8 - 31 {
		var effects [32]uint32
		for i := range effects {
			effects[i] = crc.Sum(b) ^ crc.Sum(turned(b, from+i))
		}
		for _, some := range patterns() {
			xored := crc.Sum(b)
			for _, i := range within(0, some) {
				xored ^= effects[i]
			}
			if sum := crc.Sum(turned(b, within(from, some)...)); sum != xored {
				t.Fatalf("bits %x from %d on: %x, but one by one %x", some, from, sum, xored)
			}
		}
		if r := rank(effects); r != 32 {
			t.Errorf("of the 32 bits from %d on only %d hang on none of the others", from, r)
		}
	}
}

// rank is how many of some numbers can't be xored from others of them.
func rank(rows [32]uint32) int {
	found := 0
	for bit := range 32 {
		for i := found; i < len(rows); i++ {
			if rows[i]>>bit&1 == 0 {
				continue
			}
			rows[found], rows[i] = rows[i], rows[found]
			for j := found + 1; j < len(rows); j++ {
				if rows[j]>>bit&1 == 1 {
					rows[j] ^= rows[found]
				}
			}
			found++
			break
		}
	}
	return found
}

// What a caller has behind its bytes stays, and nothing that is done to them later, or to another answer, is seen in an answer.
func TestP7NewMemory(t *testing.T) {
	for n := range 70 {
		whole := mixed(140)
		before := bytes.Clone(whole)
		first, second := crc.Seal(whole[:n]), crc.Seal(whole[:n])
		if !bytes.Equal(whole, before) {
			t.Fatalf("Seal of %d bytes changed what was handed in", n)
		}
		want := sealed(before[:n])
		clear(whole)
		clear(first[:cap(first)])
		if !bytes.Equal(second, want) {
			t.Errorf("Seal of %d bytes shares memory", n)
		}

		held := append(make([]byte, 0, 2*len(second)), second...)
		copy(held[len(held):cap(held)], mixed(cap(held)))
		room := bytes.Clone(held[:cap(held)])
		opened, err := crc.Open(held)
		other, _ := crc.Open(held)
		if err != nil || !bytes.Equal(held[:cap(held)], room) {
			t.Fatalf("Open of %d bytes: %v, or what was handed in is changed", len(held), err)
		}
		clear(other[:cap(other)])
		if !bytes.Equal(held[:cap(held)], room) {
			t.Errorf("Open of %d bytes answers what was handed in", len(held))
		}
		clear(held[:cap(held)])
		if !bytes.Equal(opened, before[:n]) {
			t.Errorf("Open of %d bytes shares memory", len(held))
		}
	}
}

// Summing and refusing change nothing, and tell the same each time.
func TestP7ReadsAlone(t *testing.T) {
	whole := mixed(100)
	before := bytes.Clone(whole)
	for n := range len(whole) + 1 {
		if first, second := crc.Sum(whole[:n]), crc.Sum(whole[:n]); first != second {
			t.Errorf("Sum of %d bytes: %x, then %x", n, first, second)
		}
		if first, second := crc.Update(9, whole[:n]), crc.Update(9, whole[:n]); first != second {
			t.Errorf("Update of %d bytes: %x, then %x", n, first, second)
		}
		want := error(api.ErrSum)
		if n < 4 {
			want = api.ErrEnd
		}
		refused(t, whole[:n], want)
		if !bytes.Equal(whole, before) {
			t.Fatalf("of %d bytes something was changed", n)
		}
	}
}

func FuzzOpen(f *testing.F) {
	for _, b := range inputs() {
		f.Add(b, uint32(0), uint32(1))
		f.Add(sealed(b), uint32(len(b)), uint32(math.MaxUint32))
	}
	f.Fuzz(func(t *testing.T, b []byte, from, some uint32) {
		if n, want := crc.Update(from, b), updated(from, b); n != want {
			t.Fatalf("Update(%x, %v): %x, not %x", from, b, n, want)
		}
		got, err := crc.Open(b)
		switch {
		case len(b) < 4 && err != api.ErrEnd, len(b) >= 4 && err != nil && err != api.ErrSum:
			t.Fatalf("Open(%v): %v", b, err)
		case err != nil && len(got) != 0:
			t.Fatalf("Open(%v): %v beside %v", b, got, err)
		case (err == nil) != (len(b) >= 4 && bytes.Equal(sealed(b[:len(b)-4]), b)):
			t.Fatalf("Open(%v): %v, %v", b, got, err)
		case err == nil && !bytes.Equal(crc.Seal(got), b):
			t.Fatalf("Open(%v): %v, sealed again %v", b, got, crc.Seal(got))
		}
		if again, err := crc.Open(crc.Seal(b)); !bytes.Equal(again, b) || err != nil {
			t.Fatalf("%v, sealed and opened: %v, %v", b, again, err)
		}
		if len(b) >= 4 && some != 0 {
			refused(t, turned(crc.Seal(b), within(int(from)%(len(b)*8-31), some)...), api.ErrSum)
		}
	})
}
