package record_test

import (
	"bytes"
	"math"
	"math/big"
	"math/rand"
	"slices"
	"testing"

	"barbican/api"
	"barbican/record"
)

// groups is a number by the words of layer 3: groups of seven bits, the lowest first, as few as can be.
func groups(n uint64) []byte {
	var out []byte
	for n > 127 {
		out = append(out, byte(128+n%128))
		n /= 128
	}
	return append(out, byte(n))
}

// sumOf is the sum of bytes by the words of layer 4, reckoned bit by bit.
func sumOf(b []byte) []byte {
	state := uint32(math.MaxUint32)
	for _, c := range b {
		state ^= uint32(c)
		for range 8 {
			odd := state%2 == 1
			state /= 2
			if odd {
				state ^= 0xedb88320
			}
		}
	}
	sum := state ^ math.MaxUint32
	return []byte{byte(sum / (1 << 24)), byte(sum / (1 << 16) % 256), byte(sum / (1 << 8) % 256), byte(sum % 256)}
}

// summed is bytes with their sum behind them.
func summed(parts ...[]byte) []byte {
	b := slices.Concat(parts...)
	return append(b, sumOf(b)...)
}

// framed is a record by the words.
func framed(epoch uint64, payload []byte) []byte {
	return summed(groups(uint64(len(payload))), groups(epoch), payload)
}

// read is the number at the begin of bytes by the words of PK1, reckoned without a bound.
func read(b []byte) (uint64, int, error) {
	n := new(big.Int)
	for i := range 10 {
		if i == len(b) {
			return 0, 0, api.ErrEnd
		}
		n.Add(n, new(big.Int).Lsh(big.NewInt(int64(b[i]%128)), uint(7*i)))
		if b[i] < 128 && (b[i] == 0 && i > 0 || !n.IsUint64()) {
			return 0, 0, api.ErrForm
		}
		if b[i] < 128 {
			return n.Uint64(), i + 1, nil
		}
	}
	return 0, 0, api.ErrForm
}

// one is One by the words of RC2. Of bytes whose epoch is no number nobody can tell where the record would end.
func one(epoch uint64, b []byte) ([]byte, int, error) {
	if len(b) == 0 || b[0] == 0 {
		return nil, 0, api.ErrNone
	}
	length, first, err := read(b)
	if err == error(api.ErrEnd) {
		return nil, 0, api.ErrEnd
	}
	if err != nil || length > api.MaxBlob {
		return nil, 0, api.ErrSum
	}
	said, second, err := read(b[first:])
	if err == error(api.ErrEnd) {
		return nil, 0, api.ErrEnd
	}
	if err != nil {
		return nil, 0, api.ErrSum
	}
	from, to := first+second, first+second+int(length)
	if len(b) < to+4 {
		return nil, 0, api.ErrEnd
	}
	if said != epoch || !bytes.Equal(sumOf(b[:to]), b[to:to+4]) {
		return nil, 0, api.ErrSum
	}
	return b[from:to], to + 4, nil
}

// scan is Scan by the words of RC3.
func scan(epoch uint64, b []byte) ([][]byte, int) {
	var out [][]byte
	size := 0
	for {
		payload, n, err := one(epoch, b[size:])
		if err != nil {
			return out, size
		}
		out, size = append(out, payload), size+n
	}
}

// epochs are those at which a number takes another byte, and the least and the greatest ones.
func epochs() []uint64 {
	out := []uint64{0, 1, 2, 126, math.MaxUint64 - 1, math.MaxUint64}
	for i := 7; i < 64; i += 7 {
		out = append(out, 1<<i-1, 1<<i, 1<<i+1)
	}
	return out
}

// mixed are n bytes in no order that can be seen, always the same ones.
func mixed(n int) []byte {
	out := make([]byte, n)
	rand.New(rand.NewSource(int64(n))).Read(out)
	return out
}

// small are payloads of few bytes: noughts, what looks like a record itself, and those at which a length takes a second byte.
func small() [][]byte {
	return [][]byte{
		{0}, {1}, {128}, {255}, []byte("a"), []byte("ab"), make([]byte, 9), framed(1, []byte("a")), bytes.Repeat([]byte{255}, 20),
		mixed(64), mixed(126), mixed(127), mixed(128), mixed(129), make([]byte, 128),
	}
}

// large are payloads at the other bounds: where a length takes a third byte, and where it is too long.
func large() [][]byte {
	return [][]byte{mixed(1<<14 - 1), mixed(1 << 14), make([]byte, 1<<16), mixed(api.MaxBlob - 1), mixed(api.MaxBlob)}
}

// tails are what may stand behind records and is none of the epoch 7.
func tails() [][]byte {
	whole := framed(7, []byte("tail"))
	turned := slices.Clone(whole)
	turned[3] ^= 1
	return [][]byte{
		nil, {0}, make([]byte, 200), {1}, {128}, {255}, bytes.Repeat([]byte{255}, 40), bytes.Repeat([]byte{128}, 9), {128, 0}, {4, 7},
		framed(8, []byte("other")), framed(0, []byte("a")), framed(7+128, mixed(128)), whole[:len(whole)-1], whole[1:], turned,
		append([]byte{0}, whole...), append(groups(api.MaxBlob+1), whole...), []byte("any other bytes"),
	}
}

// rows are payloads of records that stand one behind the other.
func rows() [][][]byte {
	return [][][]byte{
		{},
		{[]byte("a")},
		{[]byte("a"), []byte("b")},
		{{0}, {0}, {0}},
		{make([]byte, 30), []byte("noughts ahead")},
		{mixed(127), mixed(128), mixed(1)},
		{framed(7, []byte("in")), []byte("a record in a record"), framed(8, []byte("in"))},
		small(),
	}
}

// row is the bytes of records of an epoch, and where each of them ends.
func row(epoch uint64, payloads [][]byte) ([]byte, []int) {
	var out []byte
	var ends []int
	for _, payload := range payloads {
		out = append(out, framed(epoch, payload)...)
		ends = append(ends, len(out))
	}
	return out, ends
}

// begin is how many of the records end within the first bytes of a row.
func begin(ends []int, bytes int) int {
	n := 0
	for n < len(ends) && ends[n] <= bytes {
		n++
	}
	return n
}

// short is a begin of bytes that can be told.
func short(b []byte) []byte { return b[:min(len(b), 24)] }

// sameLists tells whether two lists hold the same bytes.
func sameLists(x, y [][]byte) bool { return slices.EqualFunc(x, y, bytes.Equal) }

// answers asks One for what it tells by the words.
func answers(t testing.TB, epoch uint64, b []byte) {
	t.Helper()
	payload, size, err := record.One(epoch, b)
	want, wantSize, wantErr := one(epoch, b)
	if !bytes.Equal(payload, want) || size != wantSize || err != wantErr {
		t.Fatalf("One(%d, %v.., %d bytes): %v.., %d, %v, not %v.., %d, %v", epoch, short(b), len(b), short(payload), size, err, short(want), wantSize, wantErr)
	}
}

// holds asks One for a payload.
func holds(t testing.TB, epoch uint64, b, payload []byte, size int) {
	t.Helper()
	if got, n, err := record.One(epoch, b); !bytes.Equal(got, payload) || n != size || err != nil {
		t.Fatalf("One(%d, %v.., %d bytes): %v.., %d, %v, not %v.., %d", epoch, short(b), len(b), short(got), n, err, short(payload), size)
	}
}

// refuses asks One for an error, and for nothing beside it.
func refuses(t testing.TB, epoch uint64, b []byte, want api.Errno) {
	t.Helper()
	if payload, size, err := record.One(epoch, b); len(payload) != 0 || size != 0 || err != error(want) {
		t.Fatalf("One(%d, %v.., %d bytes): %v.., %d, %v, not %v", epoch, short(b), len(b), short(payload), size, err, want)
	}
}

// scans asks Scan for payloads.
func scans(t testing.TB, epoch uint64, b []byte, payloads [][]byte, size int) {
	t.Helper()
	if got, n := record.Scan(epoch, b); !sameLists(got, payloads) || n != size {
		t.Fatalf("Scan(%d, %v.., %d bytes): %d payloads or others, %d, not %d, %d", epoch, short(b), len(b), len(got), n, len(payloads), size)
	}
}

// frames asks for a Frame that goes well.
func frames(t testing.TB, epoch uint64, payload []byte) []byte {
	t.Helper()
	b, err := record.Frame(epoch, payload)
	if err != nil {
		t.Fatalf("Frame(%d, %d bytes): %v", epoch, len(payload), err)
	}
	return b
}

func TestRC1Examples(t *testing.T) {
	for _, c := range []struct {
		epoch   uint64
		payload string
		want    []byte
	}{
		{1, "a", []byte{1, 1, 97, 221, 45, 211, 170}},
		{0, "a", []byte{1, 0, 97, 196, 54, 226, 235}},
		{127, "a", []byte{1, 127, 97, 108, 145, 135, 210}},
		{128, "a", []byte{1, 128, 1, 97, 91, 99, 195, 118}},
		{math.MaxUint64, "a", []byte{1, 255, 255, 255, 255, 255, 255, 255, 255, 255, 1, 97, 139, 173, 176, 240}},
		{1, "\x00", []byte{1, 1, 0, 231, 152, 130, 100}},
		{300, "123456789", []byte{9, 172, 2, 49, 50, 51, 52, 53, 54, 55, 56, 57, 52, 19, 41, 196}},
	} {
		if b := frames(t, c.epoch, []byte(c.payload)); !bytes.Equal(b, c.want) {
			t.Errorf("Frame(%d, %q): %v, not %v", c.epoch, c.payload, b, c.want)
		}
		holds(t, c.epoch, c.want, []byte(c.payload), len(c.want))
	}
}

// The bytes ahead of long payloads, and their sums.
func TestRC1LongExamples(t *testing.T) {
	for _, c := range []struct {
		epoch      uint64
		fill       byte
		n          int
		ahead, sum []byte
	}{
		{1, 'x', 127, []byte{127, 1}, []byte{195, 68, 79, 91}},
		{1, 'x', 128, []byte{128, 1, 1}, []byte{200, 29, 70, 165}},
		{0, 0, 300, []byte{172, 2, 0}, []byte{49, 254, 217, 93}},
		{1, 'x', api.MaxBlob, []byte{128, 128, 64, 1}, []byte{61, 68, 214, 179}},
	} {
		payload := bytes.Repeat([]byte{c.fill}, c.n)
		want := slices.Concat(c.ahead, payload, c.sum)
		if b := frames(t, c.epoch, payload); !bytes.Equal(b, want) {
			t.Errorf("Frame(%d, %d bytes): %v.., %d bytes, not %v.., %d bytes", c.epoch, c.n, short(b), len(b), short(want), len(want))
		}
		holds(t, c.epoch, want, payload, len(want))
	}
}

// Every record is laid by the words, has as many bytes as Len tells, and begins with no byte 0.
func TestRC1Frame(t *testing.T) {
	check := func(epoch uint64, payload []byte) {
		b, want := frames(t, epoch, payload), framed(epoch, payload)
		if !bytes.Equal(b, want) {
			t.Fatalf("Frame(%d, %d bytes): %v.., not %v..", epoch, len(payload), short(b), short(want))
		}
		if n, err := record.Len(epoch, len(payload)); n != len(want) || err != nil {
			t.Fatalf("Len(%d, %d): %d, %v, not %d", epoch, len(payload), n, err, len(want))
		}
		if b[0] == 0 {
			t.Fatalf("Frame(%d, %d bytes) begins with a byte 0", epoch, len(payload))
		}
	}
	for _, epoch := range epochs() {
		for _, payload := range small() {
			check(epoch, payload)
		}
	}
	for _, payload := range large() {
		check(0, payload)
		check(math.MaxUint64, payload)
	}
	for n := 1; n < 700; n++ {
		check(uint64(n), mixed(n))
	}
}

func TestRC1FrameRefuses(t *testing.T) {
	for _, epoch := range epochs() {
		for payload, want := range map[int]api.Errno{0: api.ErrArg, api.MaxBlob + 1: api.ErrLong, 2 * api.MaxBlob: api.ErrLong} {
			if b, err := record.Frame(epoch, make([]byte, payload)); len(b) != 0 || err != error(want) {
				t.Errorf("Frame(%d, %d bytes): %v.., %v, not %v", epoch, payload, short(b), err, want)
			}
		}
		if b, err := record.Frame(epoch, nil); len(b) != 0 || err != error(api.ErrArg) {
			t.Errorf("Frame(%d, nil): %v, %v", epoch, b, err)
		}
	}
	// Room behind an empty payload is none of it.
	if b, err := record.Frame(1, make([]byte, 9)[:0]); len(b) != 0 || err != error(api.ErrArg) {
		t.Errorf("Frame of no bytes with room: %v, %v", b, err)
	}
}

func TestRC1Len(t *testing.T) {
	for _, c := range []struct {
		epoch   uint64
		n, want int
	}{
		{1, 1, 7}, {0, 1, 7}, {127, 1, 7}, {128, 1, 8}, {math.MaxUint64, 1, 16},
		{1, 127, 133}, {1, 128, 135}, {1, 1<<14 - 1, 1<<14 + 6}, {1, 1 << 14, 1<<14 + 8},
		{0, api.MaxBlob, api.MaxBlob + 8}, {math.MaxUint64, api.MaxBlob, api.MaxBlob + 17},
	} {
		if n, err := record.Len(c.epoch, c.n); n != c.want || err != nil {
			t.Errorf("Len(%d, %d): %d, %v, not %d", c.epoch, c.n, n, err, c.want)
		}
	}
	for _, epoch := range epochs() {
		for n := 1; n <= api.MaxBlob; n += 1 + n/50 {
			want := len(groups(uint64(n))) + len(groups(epoch)) + n + 4
			if got, err := record.Len(epoch, n); got != want || err != nil {
				t.Fatalf("Len(%d, %d): %d, %v, not %d", epoch, n, got, err, want)
			}
		}
	}
}

func TestRC1LenRefuses(t *testing.T) {
	for _, epoch := range epochs() {
		for n, want := range map[int]api.Errno{
			0: api.ErrArg, -1: api.ErrArg, -2: api.ErrArg, -api.MaxBlob: api.ErrArg, math.MinInt: api.ErrArg,
			api.MaxBlob + 1: api.ErrLong, 2 * api.MaxBlob: api.ErrLong, math.MaxInt32: api.ErrLong, math.MaxInt: api.ErrLong,
		} {
			if got, err := record.Len(epoch, n); got != 0 || err != error(want) {
				t.Errorf("Len(%d, %d): %d, %v, not %v", epoch, n, got, err, want)
			}
		}
	}
}

// A record is told with whatever stands behind it.
func TestRC2One(t *testing.T) {
	for _, epoch := range epochs() {
		for _, payload := range small() {
			b := framed(epoch, payload)
			holds(t, epoch, b, payload, len(b))
			for _, tail := range tails() {
				holds(t, epoch, slices.Concat(b, tail), payload, len(b))
			}
			holds(t, epoch, slices.Concat(b, b), payload, len(b))
		}
	}
	for _, payload := range large() {
		for _, epoch := range []uint64{0, math.MaxUint64} {
			b := framed(epoch, payload)
			holds(t, epoch, append(b, 1, 2, 3), payload, len(b))
		}
	}
}

func TestRC2None(t *testing.T) {
	whole := framed(0, []byte("a"))
	for _, epoch := range epochs() {
		refuses(t, epoch, nil, api.ErrNone)
		refuses(t, epoch, []byte{}, api.ErrNone)
		refuses(t, epoch, whole[:0], api.ErrNone)
		refuses(t, epoch, []byte{0}, api.ErrNone)
		refuses(t, epoch, make([]byte, 64), api.ErrNone)
		refuses(t, epoch, append([]byte{0}, whole...), api.ErrNone)
		// An empty payload with its sum is no record, and is not cut either.
		refuses(t, epoch, summed([]byte{0}, groups(epoch)), api.ErrNone)
		refuses(t, epoch, []byte{0, 128}, api.ErrNone)
	}
}

// noNumbers are bytes that begin with no number of layer 3, whatever follows.
func noNumbers() [][]byte {
	flags := func(n int, ends ...byte) []byte { return append(bytes.Repeat([]byte{128}, n), ends...) }
	return [][]byte{
		{128, 0}, {129, 0}, {255, 0}, flags(2, 0), flags(8, 0), flags(9, 0), flags(9, 2), flags(9, 127), flags(9, 3), flags(10), flags(11), flags(10, 1),
		append(bytes.Repeat([]byte{255}, 9), 2), bytes.Repeat([]byte{255}, 10), bytes.Repeat([]byte{255}, 30),
	}
}

// A length that can't be is told as a wrong sum, even where the bytes end, the sum is right, or the epoch is none or another one.
func TestRC2BadLength(t *testing.T) {
	lengths := noNumbers()
	for _, n := range []uint64{api.MaxBlob + 1, api.MaxBlob + 2, 2 * api.MaxBlob, 1<<31 - 1, 1 << 31, 1 << 32, 1<<32 + 1, 1<<63 - 1, 1 << 63, 1<<63 + 1, math.MaxUint64 - 6, math.MaxUint64} {
		lengths = append(lengths, groups(n))
	}
	for _, length := range lengths {
		for _, epoch := range []uint64{0, 1, 128, math.MaxUint64} {
			refuses(t, epoch, length, api.ErrSum)
			refuses(t, epoch, append(slices.Clone(length), 128), api.ErrSum)
			refuses(t, epoch, slices.Concat(length, groups(epoch)), api.ErrSum)
			refuses(t, epoch, slices.Concat(length, groups(epoch), mixed(300)), api.ErrSum)
			refuses(t, epoch, summed(length, groups(epoch), []byte("a")), api.ErrSum)
			refuses(t, epoch, slices.Concat(length, groups(epoch+1)), api.ErrSum)
			refuses(t, epoch, append(slices.Clone(length), noNumbers()[0]...), api.ErrSum)
		}
	}
}

// A payload of one byte more than MaxBlob, framed all the same, is none; of MaxBlob it is one.
func TestRC2LongestLength(t *testing.T) {
	b := framed(5, mixed(api.MaxBlob+1))
	refuses(t, 5, b, api.ErrSum)
	refuses(t, 5, b[:len(b)-1], api.ErrSum)
	refuses(t, 5, b[:3], api.ErrSum)
	scans(t, 5, b, nil, 0)
	c := framed(5, mixed(api.MaxBlob))
	holds(t, 5, c, mixed(api.MaxBlob), len(c))
	scans(t, 5, c, [][]byte{mixed(api.MaxBlob)}, len(c))
	for _, n := range []int{1, 2, 3, 4, 5, 1000, api.MaxBlob, api.MaxBlob + 4, len(c) - 4, len(c) - 1} {
		refuses(t, 5, c[:n], api.ErrEnd)
	}
}

// Bytes that end within the length, the epoch, the payload or the sum are told as ended, of whichever epoch they are.
func TestRC2End(t *testing.T) {
	for _, epoch := range epochs() {
		for _, payload := range small() {
			b := framed(epoch, payload)
			for n := 1; n < len(b); n++ {
				refuses(t, epoch, b[:n], api.ErrEnd)
				refuses(t, epoch+1, b[:n], api.ErrEnd)
				refuses(t, epoch^128, b[:n], api.ErrEnd)
			}
		}
	}
	// Ten bytes make a number or none: of nine that all go on nobody knows.
	for n := 1; n < 10; n++ {
		refuses(t, 1, bytes.Repeat([]byte{255}, n), api.ErrEnd)
		refuses(t, 1, append([]byte{9}, bytes.Repeat([]byte{255}, n)...), api.ErrEnd)
	}
	// What is cut is told as ended, even where another byte of it is wrong too.
	b := framed(1, []byte("abcdef"))
	b[4] ^= 1
	refuses(t, 1, b, api.ErrSum)
	refuses(t, 1, b[:len(b)-1], api.ErrEnd)
	refuses(t, 2, b[:len(b)-1], api.ErrEnd)
}

// Where the record ends is told by the epoch that stands in it, not by the one that is asked for.
func TestRC2EndOfAnotherEpoch(t *testing.T) {
	for _, said := range epochs() {
		for _, asked := range epochs() {
			if said == asked {
				continue
			}
			b := framed(said, []byte("a"))
			refuses(t, asked, b, api.ErrSum)
			refuses(t, asked, append(slices.Clone(b), 1, 2, 3), api.ErrSum)
			refuses(t, asked, b[:len(b)-1], api.ErrEnd)
			scans(t, asked, b, nil, 0)
		}
	}
}

// An epoch that is no number is told as a wrong sum, even where the sum is right.
func TestRC2BadEpoch(t *testing.T) {
	for _, epoch := range noNumbers() {
		for _, asked := range []uint64{0, 1, 128, 1 << 63, math.MaxUint64} {
			for _, payload := range small() {
				refuses(t, asked, summed(groups(uint64(len(payload))), epoch, payload), api.ErrSum)
				refuses(t, asked, slices.Concat(groups(uint64(len(payload))), epoch, payload, make([]byte, 50)), api.ErrSum)
			}
			// Nobody can tell where the record would have ended.
			refuses(t, asked, slices.Concat([]byte{9}, epoch), api.ErrSum)
		}
	}
}

// turned is a copy with one bit turned.
func turned(b []byte, bit int) []byte {
	out := slices.Clone(b)
	out[bit/8] ^= 1 << (bit % 8)
	return out
}

// Whichever bit of a record is turned, no payload is told; in the payload and in the sum the sum is wrong then.
func TestRC2EachBitTurned(t *testing.T) {
	for _, epoch := range []uint64{0, 1, 127, 128, 1 << 14, math.MaxUint64} {
		for _, payload := range small() {
			b := framed(epoch, payload)
			ahead := len(b) - 4 - len(payload)
			for bit := range 8 * len(b) {
				for _, tail := range [][]byte{nil, {0, 0, 0, 0}, mixed(300)} {
					bad := append(turned(b, bit), tail...)
					if got, n, err := record.One(epoch, bad); len(got) != 0 || n != 0 || err == nil {
						t.Fatalf("One(%d, %v.. with the bit %d turned): %v.., %d, %v", epoch, short(b), bit, short(got), n, err)
					}
					answers(t, epoch, bad)
					if bit/8 >= ahead {
						refuses(t, epoch, bad, api.ErrSum)
					}
				}
			}
		}
	}
}

// The sum's bytes stand in one order alone, and are of all that stands ahead of them: also of the length and the epoch.
func TestRC2Sum(t *testing.T) {
	b := framed(1, []byte("abc"))
	cut := len(b) - 4
	last := slices.Clone(b[cut:])
	slices.Reverse(last)
	for _, sum := range [][]byte{last, {0, 0, 0, 0}, {255, 255, 255, 255}, sumOf([]byte("abc")), sumOf(b[1:cut]), sumOf(b[:cut-1]), sumOf(b)} {
		refuses(t, 1, slices.Concat(b[:cut], sum), api.ErrSum)
	}
	refuses(t, 1, slices.Concat(b[:cut], []byte{0}, b[cut:]), api.ErrSum)
}

// All bytes of up to two, and any others, are told by the words.
func TestRC2ByTheWords(t *testing.T) {
	for i := range 256 {
		answers(t, 1, []byte{byte(i)})
		for j := range 256 {
			answers(t, 1, []byte{byte(i), byte(j)})
			answers(t, uint64(j), summed([]byte{byte(i), byte(j)}, mixed(200)[:i%100]))
		}
	}
	r := rand.New(rand.NewSource(10))
	for range 20000 {
		b := make([]byte, r.Intn(40))
		r.Read(b)
		if len(b) > 0 {
			b[0] %= 20
		}
		answers(t, uint64(r.Intn(3)), b)
		answers(t, uint64(r.Intn(3)), summed([]byte{byte(1 + len(b)), byte(r.Intn(3))}, b, []byte{9}))
	}
}

func TestRC3Examples(t *testing.T) {
	a, b := []byte{1, 1, 97, 221, 45, 211, 170}, framed(1, []byte("bc"))
	scans(t, 1, nil, nil, 0)
	scans(t, 1, []byte{}, nil, 0)
	scans(t, 1, []byte{0}, nil, 0)
	scans(t, 1, a, [][]byte{[]byte("a")}, 7)
	scans(t, 2, a, nil, 0)
	scans(t, 1, slices.Concat(a, b, a), [][]byte{[]byte("a"), []byte("bc"), []byte("a")}, 22)
	scans(t, 1, slices.Concat(a, []byte{0}, b), [][]byte{[]byte("a")}, 7)
	scans(t, 1, slices.Concat([]byte{0}, a, b), nil, 0)
}

// Scan stops at the first record that One answers an error of, whichever error it is, and goes on behind none.
func TestRC3FirstBadOne(t *testing.T) {
	payloads := [][]byte{[]byte("a"), mixed(127), {0}, mixed(128)}
	whole, _ := row(7, payloads)
	for _, bad := range tails()[1:] {
		scans(t, 7, slices.Concat(whole, bad), payloads, len(whole))
		scans(t, 7, slices.Concat(bad, whole)[:len(bad)], nil, 0)
		for i := range payloads {
			ahead, _ := row(7, payloads[:i])
			behind, _ := row(7, payloads[i:])
			b := slices.Concat(ahead, bad, behind)
			if _, _, err := record.One(7, b[len(ahead):]); err == nil {
				t.Fatalf("%v.. ahead of a record is one", short(bad))
			}
			scans(t, 7, b, payloads[:i], len(ahead))
		}
	}
}

// Scan tells what One does, one record behind the other.
func TestRC3AsOne(t *testing.T) {
	r := rand.New(rand.NewSource(3))
	for range 3000 {
		var b []byte
		for range r.Intn(6) {
			b = append(b, framed(uint64(r.Intn(20)/19+1), mixed(1+r.Intn(140)))...)
		}
		b = append(b, tails()[r.Intn(len(tails()))]...)
		if len(b) > 0 && r.Intn(2) == 0 {
			b = turned(b, r.Intn(8*len(b)))
		}
		want, size := scan(1, b)
		scans(t, 1, b, want, size)
		end := 0
		for _, payload := range want {
			got, n, err := record.One(1, b[end:])
			if !bytes.Equal(got, payload) || err != nil {
				t.Fatalf("One at %d: %v.., %v, not %v..", end, short(got), err, short(payload))
			}
			end += n
		}
		if _, _, err := record.One(1, b[end:]); err == nil || end != size {
			t.Fatalf("Scan ends at %d, One at %d with %v", size, end, err)
		}
	}
}

// What was framed is scanned, whatever stands behind that is no record.
func TestRC4Rows(t *testing.T) {
	for _, payloads := range rows() {
		for _, epoch := range []uint64{7, 0, 127, 128, math.MaxUint64} {
			var b []byte
			for _, payload := range payloads {
				b = append(b, frames(t, epoch, payload)...)
			}
			scans(t, epoch, b, payloads, len(b))
			for _, tail := range tails() {
				if _, _, err := one(epoch, tail); err != nil {
					scans(t, epoch, slices.Concat(b, tail), payloads, len(b))
				}
			}
			other := frames(t, epoch+1, []byte("another epoch's"))
			scans(t, epoch, slices.Concat(b, other, b), payloads, len(b))
			if len(payloads) > 0 {
				scans(t, epoch+1, slices.Concat(b, other), nil, 0)
			}
		}
	}
}

// A row that is cut at any of its bytes gives those records that are whole, whatever else lies where the rest was.
func TestRC4CutAnywhere(t *testing.T) {
	for _, payloads := range rows() {
		for _, epoch := range []uint64{7, 128, math.MaxUint64} {
			b, ends := row(epoch, payloads)
			for n := range len(b) + 1 {
				left := begin(ends, n)
				size := 0
				if left > 0 {
					size = ends[left-1]
				}
				scans(t, epoch, b[:n], payloads[:left], size)
				// Noughts in place of the rest, as in a sector that was not written: they may be the same as what was cut off.
				rest := slices.Concat(b[:n], make([]byte, 16))
				want, wantSize := scan(epoch, rest)
				scans(t, epoch, rest, want, wantSize)
				if !sameLists(want, payloads[:len(want)]) {
					t.Fatalf("cut at %d, with noughts behind: %d payloads that are no begin of the row", n, len(want))
				}
			}
		}
	}
}

// A row of which one bit is turned gives those records that stand ahead of it.
func TestRC4BitsTurned(t *testing.T) {
	payloads := [][]byte{[]byte("a"), mixed(40), {0}, framed(7, []byte("in")), mixed(128), []byte("end")}
	for _, epoch := range []uint64{7, 128} {
		b, ends := row(epoch, payloads)
		for bit := range 8 * len(b) {
			left := begin(ends, bit/8)
			size := 0
			if left > 0 {
				size = ends[left-1]
			}
			scans(t, epoch, turned(b, bit), payloads[:left], size)
		}
	}
}

// Many records are scanned, as many as an area of a device may hold.
func TestRC4LongRow(t *testing.T) {
	one := frames(t, 1, []byte("a"))
	many := api.MaxSectors * api.SectorSize / len(one)
	b := bytes.Repeat(one, many)
	payloads := slices.Repeat([][]byte{[]byte("a")}, many)
	scans(t, 1, b, payloads, len(b))
	scans(t, 1, b[:len(b)-1], payloads[1:], len(b)-len(one))
	three := slices.Concat(frames(t, 9, mixed(api.MaxBlob)), frames(t, 9, []byte("a")), frames(t, 9, mixed(api.MaxBlob-1)))
	scans(t, 9, three, [][]byte{mixed(api.MaxBlob), []byte("a"), mixed(api.MaxBlob - 1)}, len(three))
}

// roomy is a copy of bytes with other bytes in the room behind them, and all of it.
func roomy(b []byte) (held, all []byte) {
	all = slices.Concat(b, mixed(len(b)+40))
	return all[:len(b)], all
}

// What is handed in stays, with the room behind it, whatever is answered and whatever is done to the answers.
func TestP7ArgumentsStay(t *testing.T) {
	for _, payload := range small() {
		held, all := roomy(payload)
		before := slices.Clone(all)
		b := frames(t, 7, held)
		clear(b[:cap(b)])
		if !bytes.Equal(all, before) {
			t.Fatalf("Frame of %d bytes changed them, or shares them", len(payload))
		}
	}
	for _, payloads := range rows() {
		whole, _ := row(7, payloads)
		for _, n := range []int{len(whole), len(whole) / 2} {
			for _, epoch := range []uint64{7, 8} {
				held, all := roomy(whole[:n])
				before := slices.Clone(all)
				payload, _, _ := record.One(epoch, held)
				clear(payload[:cap(payload)])
				list, _ := record.Scan(epoch, held)
				for _, payload := range list {
					clear(payload[:cap(payload)])
				}
				if !bytes.Equal(all, before) {
					t.Fatalf("One or Scan of %d bytes changed them, or shares them", n)
				}
			}
		}
	}
}

// An answer stays, when what was handed in, or another answer or another part of the same one, is changed or goes on in its room.
func TestP7AnswersAreNew(t *testing.T) {
	for _, payload := range small() {
		held := slices.Clone(payload)
		first, second := frames(t, 7, held), frames(t, 7, held)
		clear(held)
		clear(second[:cap(second)])
		if !bytes.Equal(first, framed(7, payload)) {
			t.Fatalf("Frame of %d bytes shares memory", len(payload))
		}
		b := framed(7, payload)
		one, _, _ := record.One(7, b)
		other, _, _ := record.One(7, b)
		clear(b)
		clear(other[:cap(other)])
		if !bytes.Equal(one, payload) {
			t.Fatalf("One of %d bytes shares memory", len(b))
		}
	}
	for _, payloads := range rows() {
		b, _ := row(7, payloads)
		list, _ := record.Scan(7, b)
		again, _ := record.Scan(7, b)
		clear(b)
		clear(again[:cap(again)])
		for i := range list {
			if !bytes.Equal(list[i], payloads[i]) {
				t.Fatalf("the payload %d of %d shares memory", i, len(list))
			}
			clear(list[i][:cap(list[i])])
		}
	}
}

// Whatever was asked ahead, and however often, the answer is the same.
func TestP7Alone(t *testing.T) {
	for _, epoch := range []uint64{0, 7, math.MaxUint64} {
		for _, payloads := range rows() {
			b, _ := row(epoch, payloads)
			b = append(b, 255, 255)
			want, size := record.Scan(epoch, b)
			for _, other := range tails() {
				record.One(epoch, other)
				record.Scan(epoch+1, other)
				record.Frame(epoch, other)
				record.Len(epoch, len(other)-1)
				scans(t, epoch, b, want, size)
				answers(t, epoch, b)
			}
		}
	}
}

func FuzzScan(f *testing.F) {
	for _, payloads := range rows() {
		b, _ := row(7, payloads)
		f.Add(uint64(7), b, uint16(len(b)/2), uint16(9))
		f.Add(uint64(8), b, uint16(len(b)), uint16(0))
	}
	for _, tail := range tails() {
		f.Add(uint64(0), tail, uint16(1), uint16(1))
	}
	f.Fuzz(func(t *testing.T, epoch uint64, b []byte, cut, bit uint16) {
		answers(t, epoch, b)
		list, size := scan(epoch, b)
		scans(t, epoch, b, list, size)
		whole, _ := row(epoch, list)
		if !bytes.Equal(whole, b[:size]) {
			t.Fatalf("%v.. and its payloads, framed again, are not the same", short(b))
		}
		if len(b) == 0 || len(b) > api.MaxBlob {
			return
		}
		again := append(frames(t, epoch, b), b[size:]...)
		holds(t, epoch, again, b, len(again)-len(b)+size)
		at := int(cut) % len(again)
		want, wantSize := scan(epoch, again[:at])
		scans(t, epoch, again[:at], want, wantSize)
		answers(t, epoch, turned(again, int(bit)%(8*len(again))))
	})
}
