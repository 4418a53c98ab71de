package twin_test

import (
	"bytes"
	"fmt"
	"math"
	"math/big"
	"math/rand"
	"slices"
	"strings"
	"testing"

	"barbican/api"
	"barbican/disk"
	"barbican/twin"
)

const sector = api.SectorSize

// groups is a number by the words: groups of seven bits, the lowest first, as few as can be.
func groups(n uint64) []byte {
	var out []byte
	for n > 127 {
		out = append(out, byte(128+n%128))
		n /= 128
	}
	return append(out, byte(n))
}

// summed is bytes with their sum behind them, reckoned bit by bit.
func summed(b []byte) []byte {
	state := uint32(math.MaxUint32)
	for _, c := range b {
		state ^= uint32(c)
		for range 8 {
			odd := state%2 == 1
			state /= 2
			if odd {
				state ^= 0xedb88320
			}
		}
	}
	sum := state ^ math.MaxUint32
	return append(slices.Clone(b), byte(sum/(1<<24)), byte(sum/(1<<16)%256), byte(sum/(1<<8)%256), byte(sum%256))
}

// lay is a text with its number by the words.
func lay(number uint64, text string) []byte {
	return summed(slices.Concat(groups(number), groups(uint64(len(text))), []byte(text)))
}

// guess is the number at the begin of bytes, in whatever way it is said, and what stands behind.
func guess(b []byte) (*big.Int, []byte) {
	n := new(big.Int)
	for i, c := range b {
		n.Or(n, new(big.Int).Lsh(big.NewInt(int64(c%128)), uint(7*i)))
		if c < 128 {
			return n, b[i+1:]
		}
	}
	return n, nil
}

// held is the number and the text of a half's bytes, 0 if it is not whole: what they may say is guessed, laid, and held against them.
func held(b []byte) (uint64, string) {
	number, rest := guess(b)
	length, rest := guess(rest)
	if !number.IsUint64() || number.Sign() == 0 || length.Cmp(big.NewInt(int64(len(rest)))) > 0 {
		return 0, ""
	}
	text := string(rest[:length.Int64()])
	if !bytes.HasPrefix(b, lay(number.Uint64(), text)) {
		return 0, ""
	}
	return number.Uint64(), text
}

// span are the first sector of a half, and the one behind its last, by the words.
func span(a twin.Area, half int) (int, int) {
	size := (a.Sectors - a.Sectors%2) / 2
	if half == 0 {
		return a.First, a.First + size
	}
	return a.First + size, a.First + size + size
}

// bytesOf are the bytes of a half.
func bytesOf(t testing.TB, d *disk.Disk, a twin.Area, half int) []byte {
	t.Helper()
	from, to := span(a, half)
	return slices.Concat(image(t, d)[a.Region][from:to]...)
}

// image is what all sectors of a device read as, by regions.
func image(t testing.TB, d *disk.Disk) [][][]byte {
	t.Helper()
	regions, sectors := d.Size()
	out := make([][][]byte, regions)
	for r := range regions {
		for s := range sectors {
			b, err := d.Read(r, s)
			if err != nil {
				t.Fatalf("Read(%d, %d): %v", r, s, err)
			}
			out[r] = append(out[r], b)
		}
	}
	return out
}

// same tells whether two images are the same.
func same(x, y [][][]byte) bool {
	return slices.EqualFunc(x, y, func(p, q [][]byte) bool { return slices.EqualFunc(p, q, bytes.Equal) })
}

// made is a device.
func made(t testing.TB, regions, sectors int) *disk.Disk {
	t.Helper()
	d, err := disk.New(regions, sectors)
	if d == nil || err != nil {
		t.Fatalf("New(%d, %d): %v, %v", regions, sectors, d, err)
	}
	return d
}

// noisy is a device of which each sector holds other bytes, none of which is a begin of a text.
func noisy(t testing.TB, regions, sectors int) *disk.Disk {
	t.Helper()
	d := made(t, regions, sectors)
	for r := range regions {
		for s := range sectors {
			put(t, d, r, s, bytes.Repeat([]byte{byte(200 + (r*7+s)%50)}, sector))
		}
	}
	return d
}

// put lays bytes into sectors, and makes them safe.
func put(t testing.TB, d *disk.Disk, region, first int, b []byte) {
	t.Helper()
	for part := range slices.Chunk(b, sector) {
		if err := d.Write(region, first, part); err != nil {
			t.Fatalf("Write(%d, %d): %v", region, first, err)
		}
		first++
	}
	if err := d.Sync(region); err != nil {
		t.Fatal(err)
	}
}

// putHalf lays bytes into a half.
func putHalf(t testing.TB, d *disk.Disk, a twin.Area, half int, b []byte) {
	t.Helper()
	from, to := span(a, half)
	if len(b) > (to-from)*sector {
		t.Fatalf("%d bytes are no half of %v", len(b), a)
	}
	put(t, d, a.Region, from, b)
}

// loads asks for what Load tells.
func loads(t testing.TB, d *disk.Disk, a twin.Area, text string, number uint64) {
	t.Helper()
	if b, n, err := twin.Load(d, a); string(b) != text || n != number || err != nil {
		t.Fatalf("Load of %v: %q, %d, %v, not %q, %d", a, b, n, err, text, number)
	}
}

// loadsNone asks for a Load that tells that none is whole.
func loadsNone(t testing.TB, d *disk.Disk, a twin.Area) {
	t.Helper()
	if b, n, err := twin.Load(d, a); len(b) != 0 || n != 0 || err != error(api.ErrNone) {
		t.Fatalf("Load of %v, none of which is whole: %q, %d, %v", a, b, n, err)
	}
}

// halves asks for what Halves tells.
func halves(t testing.TB, d *disk.Disk, a twin.Area, first, second uint64) {
	t.Helper()
	if n, m, err := twin.Halves(d, a); n != first || m != second || err != nil {
		t.Fatalf("Halves of %v: %d, %d, %v, not %d, %d", a, n, m, err, first, second)
	}
}

// saves asks for a Save that goes well.
func saves(t testing.TB, d *disk.Disk, a twin.Area, text string) {
	t.Helper()
	if err := twin.Save(d, a, []byte(text)); err != nil {
		t.Fatalf("Save of %d bytes in %v: %v", len(text), a, err)
	}
}

// told is what Load must tell of a device by TW1: the number 0, if ErrNone.
func told(t testing.TB, d *disk.Disk, a twin.Area) (text string, number uint64, half int) {
	t.Helper()
	first, one := held(bytesOf(t, d, a, 0))
	second, two := held(bytesOf(t, d, a, 1))
	if first >= second {
		return one, first, 0
	}
	return two, second, 1
}

// tells asks a device for all that Load and Halves tell by TW1.
func tells(t testing.TB, d *disk.Disk, a twin.Area) {
	t.Helper()
	first, _ := held(bytesOf(t, d, a, 0))
	second, _ := held(bytesOf(t, d, a, 1))
	halves(t, d, a, first, second)
	if text, number, _ := told(t, d, a); number == 0 {
		loadsNone(t, d, a)
	} else {
		loads(t, d, a, text, number)
	}
}

// wanted is what the device reads as behind a Save by TW2, and how many sectors it writes.
func wanted(t testing.TB, d *disk.Disk, a twin.Area, text string) ([][][]byte, int) {
	t.Helper()
	_, number, half := told(t, d, a)
	if number == 0 {
		half = 1 // so that it is the first one that is laid into
	}
	want := image(t, d)
	at, _ := span(a, 1-half)
	writes := 0
	for part := range slices.Chunk(lay(number+1, text), sector) {
		want[a.Region][at] = append(slices.Clone(part), make([]byte, sector-len(part))...)
		at, writes = at+1, writes+1
	}
	return want, writes
}

// follows saves a text and holds the device against TW2, also with as many writes as it needs and with one less.
func follows(t testing.TB, d *disk.Disk, a twin.Area, text string) {
	t.Helper()
	want, writes := wanted(t, d, a, text)
	short := d.Clone()
	if err := short.Arm(writes - 1); err != nil {
		t.Fatal(err)
	}
	if err := twin.Save(short, a, []byte(text)); err != error(api.ErrDisk) || !short.Crashed() {
		t.Fatalf("Save of %d bytes in %v with %d of %d writes: %v, crashed %t", len(text), a, writes-1, writes, err, short.Crashed())
	}
	if err := d.Arm(writes); err != nil {
		t.Fatal(err)
	}
	saves(t, d, a, text)
	if d.Crashed() || len(d.Pending(a.Region)) != 0 {
		t.Fatalf("Save of %d bytes in %v: crashed %t, pending %v", len(text), a, d.Crashed(), d.Pending(a.Region))
	}
	if !same(image(t, d), want) {
		t.Fatalf("Save of %d bytes in %v: the device holds something else", len(text), a)
	}
	d.Restart(nil)
	if !same(image(t, d), want) {
		t.Fatalf("Save of %d bytes in %v: it is not safe", len(text), a)
	}
	tells(t, d, a)
}

// areas are some in a device of 3 regions of 12 sectors: of 2, 3 and other odd numbers, of all, at the begin, at the end, between.
func areas() []twin.Area {
	return []twin.Area{
		{0, 0, 2}, {1, 0, 3}, {2, 10, 2}, {1, 9, 3}, {1, 5, 2}, {0, 4, 3},
		{0, 0, 4}, {2, 7, 5}, {1, 3, 6}, {0, 2, 7}, {2, 0, 8}, {1, 1, 9},
		{0, 0, 12}, {1, 0, 12}, {2, 0, 12}, {1, 0, 11}, {2, 1, 11},
	}
}

// text is one of n bytes: none of it is as another place of it or as one of another tag.
func text(tag, n int) string {
	out := make([]byte, n)
	state := uint64(tag*4099 + 1)
	for i := range out {
		state = state*6364136223846793005 + 1442695040888963407
		out[i] = byte(state >> 56)
	}
	return string(out)
}

// greatNumbers are those around which they need one more byte, and the greatest ones.
func greatNumbers() []uint64 {
	out := []uint64{1, 2, 3, 300}
	for bits := 7; bits < 64; bits += 7 {
		out = append(out, 1<<bits-2, 1<<bits-1, 1<<bits)
	}
	return append(out, math.MaxInt64, math.MaxInt64+1, math.MaxUint64-1, math.MaxUint64)
}

func TestTW1Room(t *testing.T) {
	for _, c := range []struct{ sectors, want int }{
		{math.MinInt, 0}, {math.MinInt + 1, 0}, {math.MinInt32, 0}, {-8, 0}, {-3, 0}, {-2, 0}, {-1, 0}, {0, 0}, {1, 0},
		{2, 40}, {3, 40}, {4, 104}, {5, 104}, {6, 168}, {7, 168}, {8, 232}, {9, 232}, {100, 3176}, {101, 3176},
		{api.MaxSectors - 2, 524200}, {api.MaxSectors - 1, 524200}, {api.MaxSectors, 524264},
		{api.MaxSectors + 1, 0}, {api.MaxSectors + 2, 0}, {2 * api.MaxSectors, 0}, {1<<32 + 8, 0}, {math.MaxInt32, 0}, {math.MaxInt - 1, 0}, {math.MaxInt, 0},
	} {
		for _, other := range []int{0, 1, -1, 5, math.MinInt, math.MaxInt, api.MaxSectors} {
			for _, a := range []twin.Area{{0, 0, c.sectors}, {other, 0, c.sectors}, {0, other, c.sectors}, {other, other, c.sectors}} {
				if got := twin.Room(a); got != c.want {
					t.Errorf("Room of %v: %d, not %d", a, got, c.want)
				}
			}
		}
	}
}

func TestTW1Examples(t *testing.T) {
	d := made(t, 1, 8)
	a := twin.Area{Sectors: 8}
	loadsNone(t, d, a)
	halves(t, d, a, 0, 0)
	saves(t, d, a, "a")
	halves(t, d, a, 1, 0)
	loads(t, d, a, "a", 1)
	saves(t, d, a, "b")
	halves(t, d, a, 1, 2)
	loads(t, d, a, "b", 2)
}

// No half whole, the first alone, the second alone, both, both with the same number.
func TestTW1Load(t *testing.T) {
	for _, a := range areas() {
		for _, n := range []uint64{0, 1, 2, 127, 128, 1 << 32, math.MaxUint64 - 1, math.MaxUint64} {
			for _, m := range []uint64{0, 1, 2, 127, 128, 1 << 32, math.MaxUint64 - 1, math.MaxUint64} {
				d := noisy(t, 3, 12)
				first, second := text(1, twin.Room(a)), text(2, twin.Room(a)/2)
				if n > 0 {
					putHalf(t, d, a, 0, lay(n, first))
				}
				if m > 0 {
					putHalf(t, d, a, 1, lay(m, second))
				}
				before := image(t, d)
				halves(t, d, a, n, m)
				switch {
				case n == 0 && m == 0:
					loadsNone(t, d, a)
				case n >= m:
					loads(t, d, a, first, n)
				default:
					loads(t, d, a, second, m)
				}
				if !same(before, image(t, d)) || len(d.Pending(a.Region)) != 0 {
					t.Fatal("the device is changed by what asks it")
				}
			}
		}
	}
}

// A device at first holds noughts: a number 0 is none.
func TestTW1Noughts(t *testing.T) {
	for _, a := range areas() {
		d := made(t, 3, 12)
		halves(t, d, a, 0, 0)
		loadsNone(t, d, a)
	}
}

// most is how many bytes a text with a number may have, so that a half of size bytes holds it.
func most(number uint64, size int) int {
	n := size
	for len(groups(number))+len(groups(uint64(n)))+n+4 > size {
		n--
	}
	return n
}

// notWhole are bytes that no half holds a text by; a half has size bytes.
func notWhole(size int) map[string][]byte {
	good := lay(7, "good")
	turned := slices.Clone(good)
	turned[len(turned)-1] ^= 1
	backwards := slices.Clone(good)
	slices.Reverse(backwards[len(good)-4:])
	filled := func(n int) []byte { return summed(slices.Concat([]byte{7}, groups(uint64(n)), make([]byte, n))) }
	exact := most(7, size)
	return map[string][]byte{
		"nothing":                          {},
		"noughts":                          make([]byte, size),
		"a number 0":                       lay(0, "good"),
		"a number 0, no text":              lay(0, ""),
		"all bits":                         bytes.Repeat([]byte{255}, size),
		"no number in ten bytes":           bytes.Repeat([]byte{128}, size),
		"a number of 2^64":                 summed(append(bytes.Repeat([]byte{128}, 9), 2, 1, 'a')),
		"a number of two ways":             summed([]byte{129, 0, 1, 'a'}),
		"a number 0 of two ways":           summed([]byte{128, 0, 1, 'a'}),
		"a length of two ways":             summed([]byte{1, 129, 0, 'a'}),
		"no text of two ways":              summed([]byte{1, 128, 0}),
		"a length that is no number":       summed(append([]byte{1}, bytes.Repeat([]byte{255}, 10)...)),
		"a length of 2^64 - 1":             append(slices.Concat(groups(1), groups(math.MaxUint64)), "rest"...),
		"a length of 2^63":                 append(slices.Concat(groups(1), groups(1<<63)), "rest"...),
		"a length of 2^63 - 1":             append(slices.Concat(groups(1), groups(1<<63-1)), "rest"...),
		"a length of 2^63 - 8":             append(slices.Concat(groups(1), groups(1<<63-8)), "rest"...),
		"a length of 2^32":                 summed(append(slices.Concat(groups(1), groups(1<<32)), "rest"...)),
		"a length of all bytes":            append(groups(1), groups(uint64(size))...),
		"a length of one byte too many":    filled(exact + 1)[:size],
		"a length of four bytes too many":  filled(exact + 4)[:size],
		"a length of five bytes too many":  filled(exact + 5)[:size],
		"a sum of a bit turned":            turned,
		"a sum with the lowest byte first": backwards,
		"no sum":                           good[:len(good)-4],
		"a sum of three right bytes":       append(slices.Clone(good[:len(good)-1]), ^good[len(good)-1]),
		"a sum of the text alone":          slices.Concat([]byte{7, 4}, summed([]byte("good"))),
		"a sum without the number":         append([]byte{7}, summed([]byte("\x04good"))...),
		"a byte ahead":                     append([]byte{9}, good...),
		"a byte 0 ahead":                   append([]byte{0}, good...),
		"without its first byte":           good[1:],
	}
}

func TestTW1NotWhole(t *testing.T) {
	for _, a := range areas() {
		from, to := span(a, 0)
		for name, b := range notWhole((to - from) * sector) {
			for _, other := range notWhole((to - from) * sector) {
				d := made(t, 3, 12)
				putHalf(t, d, a, 0, b)
				putHalf(t, d, a, 1, other)
				if n, m, err := twin.Halves(d, a); n != 0 || m != 0 || err != nil {
					t.Fatalf("%s: Halves of %v: %d, %d, %v", name, a, n, m, err)
				}
				loadsNone(t, d, a)
			}
			for half := range 2 {
				d := made(t, 3, 12)
				putHalf(t, d, a, half, b)
				putHalf(t, d, a, 1-half, lay(3, "whole"))
				if n, m, err := twin.Halves(d, a); n != uint64(3*half) || m != uint64(3-3*half) || err != nil {
					t.Fatalf("%s: Halves of %v: %d, %d, %v", name, a, n, m, err)
				}
				loads(t, d, a, "whole", 3)
			}
		}
	}
}

// A half holds what it begins with, whatever stands behind: also a text that fills it to its last byte, though Save would not lay it.
func TestTW1Whole(t *testing.T) {
	for _, a := range areas() {
		from, to := span(a, 0)
		size := (to - from) * sector
		for _, number := range greatNumbers() {
			full := most(number, size)
			for _, n := range []int{0, 1, 2, full / 2, twin.Room(a) - 1, twin.Room(a), twin.Room(a) + 1, full - 1, full} {
				b := lay(number, text(n, n))
				for _, behind := range []byte{0, 1, 255} {
					for half := range 2 {
						d := made(t, 3, 12)
						putHalf(t, d, a, half, append(slices.Clone(b), bytes.Repeat([]byte{behind}, size-len(b))...))
						loads(t, d, a, text(n, n), number)
						tells(t, d, a)
					}
				}
			}
		}
	}
}

// A text that would go on in the sectors behind its half is not whole, though all its bytes stand there.
func TestTW1BeyondTheHalf(t *testing.T) {
	for _, a := range areas() {
		from, to := span(a, 0)
		size := (to - from) * sector
		for n := size - 10; n <= size+10; n++ {
			b := lay(5, text(n, n))
			for half := range 2 {
				d := noisy(t, 3, 26)
				at, _ := span(a, half)
				put(t, d, a.Region, at, b)
				if len(b) <= size {
					loads(t, d, a, text(n, n), 5)
				} else if got, _, err := twin.Load(d, a); err != error(api.ErrNone) {
					t.Fatalf("%v, half %d: Load of %d bytes in %d: %q, %v", a, half, len(b), size, got, err)
				}
				tells(t, d, a)
			}
		}
	}
}

// With any bit turned in it a text is not whole, with one turned behind it it is.
func TestTW1BitsTurned(t *testing.T) {
	a := twin.Area{Region: 1, First: 2, Sectors: 7}
	for _, n := range []int{0, 1, 57, 58, 59, 100, 168} {
		good := lay(130, text(n, n))
		for i := range 3 * sector {
			for bit := range 8 {
				b := append(slices.Clone(good), make([]byte, 3*sector-len(good))...)
				b[i] ^= 1 << bit
				d := made(t, 2, 9)
				putHalf(t, d, a, i%2, b)
				if i < len(good) {
					halves(t, d, a, 0, 0)
					loadsNone(t, d, a)
				} else {
					loads(t, d, a, text(n, n), 130)
				}
			}
		}
	}
}

// What is written and not yet synced reads as it was written.
func TestTW1Pending(t *testing.T) {
	d := made(t, 1, 4)
	a := twin.Area{Sectors: 4}
	saves(t, d, a, "old")
	if err := d.Write(0, 2, lay(9, "new")); err != nil {
		t.Fatal(err)
	}
	halves(t, d, a, 1, 9)
	loads(t, d, a, "new", 9)
	if got := d.Pending(0); !slices.Equal(got, []int{2}) {
		t.Errorf("Load makes safe what was pending: %v", got)
	}
	d.Restart(nil)
	halves(t, d, a, 1, 0)
	loads(t, d, a, "old", 1)
}

// wrongAreas are areas that are not in a device of 3 regions of 12 sectors.
func wrongAreas() []twin.Area {
	out := []twin.Area{
		{0, 0, 13}, {0, 1, 12}, {0, 11, 2}, {0, 12, 2}, {0, 13, 2}, {0, 10, 3}, {0, 9, 4}, {0, 5, 8}, {0, 6, 7}, {0, 12, 0}, {0, 12, 1},
		{0, math.MaxInt, 2}, {0, math.MaxInt - 1, 2}, {0, math.MaxInt - 2, 3}, {0, 2, math.MaxInt}, {0, 2, math.MaxInt - 1}, {0, 1, math.MaxInt}, {0, 0, math.MaxInt},
		{0, math.MaxInt, math.MaxInt}, {0, math.MaxInt/2 + 1, math.MaxInt/2 + 1}, {0, math.MaxInt/2 + 3, math.MaxInt/2 + 3},
		{0, 1 << 32, 2}, {0, 0, 1<<32 + 2}, {0, 1<<32 + 1, 2}, {1 << 32, 0, 2},
		{0, 1, api.MaxSectors}, {0, 0, api.MaxSectors}, {0, 0, api.MaxSectors + 1},
		{-1, -1, -1}, {3, 12, 13}, {-1, 0, 13}, {3, -1, 2}, {0, -1, 1}, {math.MinInt, math.MinInt, math.MinInt}, {math.MaxInt, math.MaxInt, math.MaxInt},
	}
	for _, n := range []int{-1, -2, math.MinInt, math.MinInt + 1, math.MinInt32} {
		out = append(out, twin.Area{Region: n, Sectors: 2}, twin.Area{First: n, Sectors: 2}, twin.Area{First: n, Sectors: 12}, twin.Area{First: n, Sectors: math.MaxInt}, twin.Area{Sectors: n}, twin.Area{First: 2, Sectors: n})
	}
	for _, n := range []int{3, 4, 16, math.MaxInt32, math.MaxInt} {
		out = append(out, twin.Area{Region: n, Sectors: 2})
	}
	return append(out, twin.Area{}, twin.Area{Sectors: 1}, twin.Area{First: 5, Sectors: 1}, twin.Area{First: -1, Sectors: 3})
}

// answers asks all calls with errors for one of them.
func answers(t testing.TB, d *disk.Disk, a twin.Area, text []byte, want error) {
	t.Helper()
	if err := twin.Save(d, a, text); err != want {
		t.Errorf("Save of %d bytes in %v: %v, not %v", len(text), a, err, want)
	}
	if b, n, err := twin.Load(d, a); len(b) != 0 || n != 0 || err != want {
		t.Errorf("Load of %v: %q, %d, %v, not %v", a, b, n, err, want)
	}
	if n, m, err := twin.Halves(d, a); n != 0 || m != 0 || err != want {
		t.Errorf("Halves of %v: %d, %d, %v, not %v", a, n, m, err, want)
	}
}

// crash crashes a device with a write of a sector.
func crash(t testing.TB, d *disk.Disk, region, at int) {
	t.Helper()
	if err := d.Arm(0); err != nil {
		t.Fatal(err)
	}
	if err := d.Write(region, at, []byte("crash")); err != error(api.ErrDisk) {
		t.Fatal(err)
	}
}

// ErrArg comes first, whatever else could be told; a wrong call writes nothing.
func TestTW1TW2WrongAreas(t *testing.T) {
	long := make([]byte, 1<<20)
	for _, a := range wrongAreas() {
		for _, text := range [][]byte{nil, []byte("a"), long} {
			answers(t, nil, a, text, api.ErrArg)
			d := noisy(t, 3, 12)
			for r := range 3 {
				put(t, d, r, 0, lay(1, "text"))
				put(t, d, r, 6, lay(2, "text"))
			}
			before := image(t, d)
			if err := d.Arm(0); err != nil {
				t.Fatal(err)
			}
			answers(t, d, a, text, api.ErrArg)
			if d.Crashed() || !same(before, image(t, d)) {
				t.Fatalf("the device is changed by a wrong area %v", a)
			}
			crash(t, d, 0, 0)
			answers(t, d, a, text, api.ErrArg)
		}
	}
}

// A nil device has no area.
func TestTW1TW2Nil(t *testing.T) {
	for _, a := range append(areas(), twin.Area{}, twin.Area{Sectors: 2}, twin.Area{Sectors: api.MaxSectors}) {
		answers(t, nil, a, nil, api.ErrArg)
		answers(t, nil, a, make([]byte, 1<<20), api.ErrArg)
	}
}

// Behind ErrArg comes ErrDisk: ahead of ErrLong, and of ErrNone.
func TestTW1TW2Crashed(t *testing.T) {
	for _, a := range areas() {
		for saved := range 3 {
			for _, n := range []int{0, 1, twin.Room(a), twin.Room(a) + 1, 1 << 20} {
				d := made(t, 3, 12)
				for i := range saved {
					saves(t, d, a, text(i, 5))
				}
				crash(t, d, a.Region, a.First)
				pending := d.Pending(a.Region)
				answers(t, d, a, make([]byte, n), api.ErrDisk)
				if !d.Crashed() || !slices.Equal(d.Pending(a.Region), pending) {
					t.Fatal("a crashed device is changed")
				}
				d.Restart(nil)
				tells(t, d, a)
				if _, number, _ := told(t, d, a); number != uint64(saved) {
					t.Fatalf("%d saved, then %d", saved, number)
				}
			}
		}
	}
}

func TestTW2Long(t *testing.T) {
	for _, a := range areas() {
		for saved := range 3 {
			d := noisy(t, 3, 12)
			for i := range saved {
				saves(t, d, a, text(i, twin.Room(a)))
			}
			before := image(t, d)
			if err := d.Arm(0); err != nil {
				t.Fatal(err)
			}
			for _, n := range []int{1, 2, 24, 25, 64, 1000, 1 << 20} {
				if err := twin.Save(d, a, make([]byte, twin.Room(a)+n)); err != error(api.ErrLong) {
					t.Errorf("Save of %d bytes more than room in %v: %v", n, a, err)
				}
			}
			if d.Crashed() || !same(before, image(t, d)) || len(d.Pending(a.Region)) != 0 {
				t.Fatal("a text that is too long is written")
			}
			d.Restart(nil)
			saves(t, d, a, text(9, twin.Room(a)))
			loads(t, d, a, text(9, twin.Room(a)), uint64(saved+1))
		}
	}
}

// The halves are taken in turns, with ascending numbers.
func TestTW2Turns(t *testing.T) {
	for _, a := range areas() {
		d := noisy(t, 3, 12)
		for i := range uint64(300) {
			follows(t, d, a, text(int(i), int(i)%(twin.Room(a)+1)))
			if i%2 == 0 {
				halves(t, d, a, i+1, i)
			} else {
				halves(t, d, a, i, i+1)
			}
			loads(t, d, a, text(int(i), int(i)%(twin.Room(a)+1)), i+1)
		}
	}
}

// Every length of a text, from none to Room, over one that fills its half, so that old bytes stand behind it.
func TestTW2Lengths(t *testing.T) {
	for _, a := range []twin.Area{{0, 0, 2}, {1, 9, 3}, {2, 3, 5}, {1, 1, 9}} {
		full := noisy(t, 3, 12)
		saves(t, full, a, text(1, twin.Room(a)))
		saves(t, full, a, text(2, twin.Room(a)))
		for n := range twin.Room(a) + 1 {
			for _, d := range []*disk.Disk{made(t, 3, 12), noisy(t, 3, 12), full.Clone()} {
				follows(t, d, a, text(3, n))
				follows(t, d, a, text(4, twin.Room(a)-n))
				follows(t, d, a, text(5, n/2))
			}
		}
	}
}

// Which half is taken, and with which number: of none, of one, of both, of both with the same number.
func TestTW2Half(t *testing.T) {
	const lo, hi = 4, 9
	for _, a := range areas() {
		for _, c := range []struct{ first, second, wantFirst, wantSecond uint64 }{
			{0, 0, 1, 0}, {lo, 0, lo, lo + 1}, {0, lo, lo + 1, lo}, {1, 0, 1, 2}, {0, 1, 2, 1},
			{lo, hi, hi + 1, hi}, {hi, lo, hi, hi + 1}, {lo, lo, lo, lo + 1}, {1, 1, 1, 2}, {1, 2, 3, 2}, {2, 1, 2, 3},
		} {
			d := noisy(t, 3, 12)
			if c.first > 0 {
				putHalf(t, d, a, 0, lay(c.first, text(1, twin.Room(a))))
			}
			if c.second > 0 {
				putHalf(t, d, a, 1, lay(c.second, text(2, twin.Room(a))))
			}
			follows(t, d, a, "new")
			halves(t, d, a, c.wantFirst, c.wantSecond)
			loads(t, d, a, "new", max(c.wantFirst, c.wantSecond))
		}
	}
}

// A text of Room bytes has room whatever its number is.
func TestTW2GreatNumbers(t *testing.T) {
	for _, a := range areas() {
		for _, number := range greatNumbers() {
			if number == math.MaxUint64 {
				continue
			}
			for half := range 2 {
				d := noisy(t, 3, 12)
				putHalf(t, d, a, half, lay(number, "old"))
				follows(t, d, a, text(1, twin.Room(a)))
				loads(t, d, a, text(1, twin.Room(a)), number+1)
			}
		}
	}
}

// No number is one more than the greatest one: the text that is there is not lost.
func TestTW2GreatestNumber(t *testing.T) {
	for half := range 2 {
		a := twin.Area{Sectors: 4}
		d := made(t, 1, 4)
		putHalf(t, d, a, half, lay(math.MaxUint64, "old"))
		_ = twin.Save(d, a, []byte("new"))
		d.Restart(nil)
		loads(t, d, a, "old", math.MaxUint64)
	}
}

// The region is synced, with whatever was pending there, and no other one is.
func TestTW2Syncs(t *testing.T) {
	a := twin.Area{Region: 1, First: 2, Sectors: 5}
	d := made(t, 3, 12)
	for r := range 3 {
		for _, s := range []int{0, 6, 11} {
			if err := d.Write(r, s, []byte("pending")); err != nil {
				t.Fatal(err)
			}
		}
	}
	short := d.Clone()
	if err := short.Arm(1); err != nil {
		t.Fatal(err)
	}
	if err := twin.Save(short, a, []byte(text(1, 100))); err != error(api.ErrDisk) {
		t.Fatal(err)
	}
	if got := short.Pending(1); !slices.Equal(got, []int{0, 2, 3, 6, 11}) {
		t.Errorf("Pending(1) of what has crashed ahead of the sync: %v", got)
	}
	saves(t, d, a, text(1, 100))
	for r, want := range [][]int{{0, 6, 11}, {}, {0, 6, 11}} {
		if got := d.Pending(r); !slices.Equal(got, want) {
			t.Errorf("Pending(%d): %v, not %v", r, got, want)
		}
	}
	d.Restart(nil)
	for _, s := range []int{0, 6, 11} {
		if b, err := d.Read(1, s); !strings.HasPrefix(string(b), "pending") || err != nil {
			t.Errorf("Read(1, %d): %q, %v", s, b, err)
		}
	}
	loads(t, d, a, text(1, 100), 1)
}

// Sectors are written from the first one on, none behind the one that crashes, and none is synced then.
func TestTW2Stops(t *testing.T) {
	for _, a := range areas() {
		for saved := range 3 {
			begin := noisy(t, 3, 12)
			for i := range saved {
				saves(t, begin, a, text(i, 30))
			}
			_, writes := wanted(t, begin, a, text(9, twin.Room(a)))
			first, _ := span(a, saved%2)
			for n := range writes {
				d := begin.Clone()
				if err := d.Arm(n); err != nil {
					t.Fatal(err)
				}
				if err := twin.Save(d, a, []byte(text(9, twin.Room(a)))); err != error(api.ErrDisk) {
					t.Fatalf("Save in %v with %d of %d writes: %v", a, n, writes, err)
				}
				var want []int
				for i := range n + 1 {
					want = append(want, first+i)
				}
				if got := d.Pending(a.Region); !slices.Equal(got, want) {
					t.Fatalf("Save in %v with %d of %d writes: pending %v, not %v", a, n, writes, got, want)
				}
				d.Restart(nil)
				if !same(image(t, d), image(t, begin)) {
					t.Fatal("something was synced")
				}
			}
		}
	}
}

// Two twins in one region, and in others, leave each other alone.
func TestTW2Apart(t *testing.T) {
	all := []twin.Area{{0, 0, 4}, {0, 4, 2}, {0, 6, 6}, {1, 0, 5}, {1, 5, 7}, {2, 0, 12}}
	d := made(t, 3, 12)
	for round := range 20 {
		for i, a := range all {
			saves(t, d, a, text(round*10+i, twin.Room(a)-round))
		}
		for i, a := range all {
			loads(t, d, a, text(round*10+i, twin.Room(a)-round), uint64(round+1))
		}
	}
}

// An area of all sectors of the greatest region, at its begin and at its end.
func TestTW2Greatest(t *testing.T) {
	for _, a := range []twin.Area{
		{0, 0, api.MaxSectors}, {1, 0, api.MaxSectors - 1}, {1, 1, api.MaxSectors - 1},
		{0, api.MaxSectors - 2, 2}, {1, api.MaxSectors - 3, 3},
	} {
		d := made(t, 2, api.MaxSectors)
		for i := range 3 {
			saves(t, d, a, text(i, twin.Room(a)))
			d.Restart(nil)
			loads(t, d, a, text(i, twin.Room(a)), uint64(i+1))
		}
		tells(t, d, a)
		if err := twin.Save(d, a, make([]byte, twin.Room(a)+1)); err != error(api.ErrLong) {
			t.Errorf("Save of one byte too many in %v: %v", a, err)
		}
	}
}

// allChoices calls with each list of n choices out of 0, 1 and 2.
func allChoices(n int, with func([]int)) {
	choices := make([]int, n)
	var fill func(i int)
	fill = func(i int) {
		if i == n {
			with(slices.Clone(choices))
			return
		}
		for c := range 3 {
			choices[i] = c
			fill(i + 1)
		}
	}
	fill(0)
}

// crashes saves a text with each number of writes and each choice behind the crash, and hands on what each leaves.
func crashes(t testing.TB, begin *disk.Disk, a twin.Area, text string, with func(d *disk.Disk, err error, how string)) {
	t.Helper()
	_, writes := wanted(t, begin, a, text)
	for n := range writes + 1 {
		d := begin.Clone()
		if err := d.Arm(n); err != nil {
			t.Fatal(err)
		}
		err := twin.Save(d, a, []byte(text))
		if (err == nil) != (n == writes) || d.Crashed() != (err != nil) {
			t.Fatalf("Save of %d bytes in %v with %d of %d writes: %v, crashed %t", len(text), a, n, writes, err, d.Crashed())
		}
		allChoices(len(d.Pending(a.Region)), func(choices []int) {
			other := d.Clone()
			other.Restart(choices)
			with(other, err, fmt.Sprintf("%d bytes in %v, %d of %d writes, Restart(%v)", len(text), a, n, writes, choices))
		})
	}
}

// either asks for the old text or the new one behind a crash: the new one, if Save answered nil.
func either(t testing.TB, d *disk.Disk, a twin.Area, old, new string, number uint64, saved error, how string) {
	t.Helper()
	b, n, err := twin.Load(d, a)
	switch {
	case err == nil && string(b) == new && n == number+1:
	case saved == nil:
		t.Fatalf("%s: %q, %d, %v, though Save answered nil", how, b, n, err)
	case number == 0 && len(b) == 0 && n == 0 && err == error(api.ErrNone):
	case number > 0 && err == nil && string(b) == old && n == number:
	default:
		t.Fatalf("%s: %q, %d, %v", how, b, n, err)
	}
	tells(t, d, a)
}

// begins are devices with a twin that holds nothing, one text, two texts and so on, and what Load tells of them.
func begins(t testing.TB, a twin.Area, lengths ...int) []*disk.Disk {
	t.Helper()
	d := noisy(t, 1, a.First+a.Sectors+1)
	out := []*disk.Disk{d.Clone(), made(t, 1, a.First+a.Sectors)}
	for i, n := range lengths {
		saves(t, d, a, text(100+i, n))
		out = append(out, d.Clone())
	}
	return out
}

// lengths are those of texts that need one sector and more, and fill them or do not.
func lengths(a twin.Area) []int {
	var out []int
	for _, n := range []int{0, 1, 25, 26, 40, 57, 58, 59, 90, 122, 123, 150, 168, 232} {
		if n <= twin.Room(a) {
			out = append(out, n)
		}
	}
	return out
}

// Every crash while a text is saved, and every choice for what was pending.
func TestTW3EveryCrash(t *testing.T) {
	for _, a := range []twin.Area{{0, 0, 2}, {0, 1, 3}, {0, 0, 4}, {0, 2, 5}, {0, 0, 6}, {0, 1, 7}, {0, 0, 8}} {
		room := twin.Room(a)
		for _, before := range [][]int{{room, room, room}, {0, 1, 2}, {room, 1, room / 2}, {3, room, room}} {
			for _, begin := range begins(t, a, before...) {
				old, number, _ := told(t, begin, a)
				for _, n := range lengths(a) {
					crashes(t, begin, a, text(n, n), func(d *disk.Disk, err error, how string) {
						either(t, d, a, old, text(n, n), number, err, how)
					})
				}
			}
		}
	}
}

// A second crash, while the next text is saved over what the first one left.
func TestTW3TwoCrashes(t *testing.T) {
	for _, a := range []twin.Area{{0, 0, 2}, {0, 1, 5}, {0, 0, 6}} {
		room := twin.Room(a)
		for _, begin := range begins(t, a, room, room-1, 1) {
			old, number, _ := told(t, begin, a)
			crashes(t, begin, a, text(1, room), func(d *disk.Disk, err error, how string) {
				either(t, d, a, old, text(1, room), number, err, how)
				mid, now, _ := told(t, d, a)
				for _, n := range []int{0, room / 2, room} {
					crashes(t, d, a, text(2, n), func(d *disk.Disk, err error, then string) {
						either(t, d, a, mid, text(2, n), now, err, how+"; "+then)
					})
				}
			})
		}
	}
}

// The old text saved once more is torn between its own sectors and the same ones: the number alone tells them apart.
func TestTW3SameText(t *testing.T) {
	for _, a := range []twin.Area{{0, 0, 2}, {0, 0, 4}, {0, 1, 7}} {
		room := twin.Room(a)
		d := made(t, 1, 8)
		for number := range uint64(4) {
			crashes(t, d, a, text(1, room), func(d *disk.Disk, err error, how string) {
				either(t, d, a, text(1, room), text(1, room), number, err, how)
			})
			saves(t, d, a, text(1, room))
		}
	}
}

// A text that was saved is there behind every crash that comes later, as long as none is saved.
func TestTW3Stays(t *testing.T) {
	a := twin.Area{Region: 1, First: 1, Sectors: 6}
	d := made(t, 2, 8)
	for i := range uint64(5) {
		saves(t, d, a, text(int(i), 100))
		for _, at := range []int{0, 7} {
			for choice := range 3 {
				other := d.Clone()
				if err := other.Write(1, 7-at, []byte("more")); err != nil {
					t.Fatal(err)
				}
				crash(t, other, 1, at)
				other.Restart([]int{choice, choice})
				loads(t, other, a, text(int(i), 100), i+1)
			}
		}
	}
}

// Long runs of texts and crashes that chance chooses.
func TestTW3LongRuns(t *testing.T) {
	random := rand.New(rand.NewSource(9))
	for range 60 {
		sectors := 2 + random.Intn(20)
		a := twin.Area{Region: random.Intn(2), First: random.Intn(5), Sectors: sectors}
		d := made(t, 2, a.First+sectors+random.Intn(3))
		old, number := "", uint64(0)
		for i := range 80 {
			next := text(i, random.Intn(twin.Room(a)+1))
			if err := d.Arm(random.Intn(sectors)); err != nil {
				t.Fatal(err)
			}
			err := twin.Save(d, a, []byte(next))
			choices := make([]int, random.Intn(sectors+1))
			for j := range choices {
				choices[j] = random.Intn(4)
			}
			d.Restart(choices)
			either(t, d, a, old, next, number, err, "a long run")
			old, number, _ = told(t, d, a)
		}
	}
}

// The bytes that are handed in stay as they were, with what stands behind them, and the device keeps none of them.
func TestP7ArgumentsStay(t *testing.T) {
	a := twin.Area{Sectors: 8}
	for _, n := range []int{0, 1, 57, 58, 64, 200, 232, 233} {
		room := bytes.Repeat([]byte("r"), 600)
		copy(room, text(1, n))
		before := slices.Clone(room)
		d := made(t, 1, 8)
		err := twin.Save(d, a, room[:n])
		if !bytes.Equal(room, before) {
			t.Fatalf("Save of %d bytes changes them", n)
		}
		if n > twin.Room(a) {
			if err != error(api.ErrLong) {
				t.Fatal(err)
			}
			continue
		}
		clear(room)
		loads(t, d, a, text(1, n), 1)
	}
}

// The bytes that Load gives can be changed, with their spare room, without changing the device or another answer.
func TestP7AnswersAreNew(t *testing.T) {
	a := twin.Area{Sectors: 8}
	for _, n := range []int{0, 1, 57, 58, 64, 200, 232} {
		d := made(t, 1, 8)
		saves(t, d, a, text(1, n))
		first, _, err := twin.Load(d, a)
		second, _, err2 := twin.Load(d, a)
		if err != nil || err2 != nil {
			t.Fatal(err, err2)
		}
		first = first[:cap(first)]
		for i := range first {
			first[i] ^= 255
		}
		if string(second) != text(1, n) {
			t.Errorf("two Loads of %d bytes share them", n)
		}
		loads(t, d, a, text(1, n), 1)
		d.Restart(nil)
		loads(t, d, a, text(1, n), 1)
	}
}

// Nil and no bytes are the same text, which is not the same as none.
func TestP7NoText(t *testing.T) {
	for _, empty := range [][]byte{nil, {}} {
		a := twin.Area{Sectors: 2}
		d := made(t, 1, 2)
		for i := range uint64(3) {
			if err := twin.Save(d, a, empty); err != nil {
				t.Fatal(err)
			}
			loads(t, d, a, "", i+1)
		}
	}
}

// What is told hangs on the device and the area alone: the same steps, the same answers, whatever other devices there are.
func TestP7Alone(t *testing.T) {
	a := twin.Area{First: 1, Sectors: 9}
	d, other := made(t, 1, 12), made(t, 1, 12)
	for i := range uint64(20) {
		saves(t, d, a, text(int(i), 150))
		clone := d.Clone()
		saves(t, other, a, text(int(i)+50, 10))
		saves(t, clone, a, "clone")
		loads(t, d, a, text(int(i), 150), i+1)
		loads(t, other, a, text(int(i)+50, 10), i+1)
		loads(t, clone, a, "clone", i+2)
	}
}

// FuzzTwin lays any bytes into an area's sectors, saves a text over them, and crashes on the way.
func FuzzTwin(f *testing.F) {
	f.Add(uint8(8), lay(1, "a"), lay(2, "b"), []byte("c"), uint8(0), uint8(1))
	f.Add(uint8(3), lay(300, "first"), []byte{0}, []byte{}, uint8(1), uint8(2))
	f.Add(uint8(2), []byte{}, lay(math.MaxUint64-1, text(1, 40)), []byte(text(2, 40)), uint8(0), uint8(7))
	f.Add(uint8(9), lay(5, text(1, 200)), lay(5, text(2, 230)), []byte(text(3, 180)), uint8(2), uint8(100))
	f.Add(uint8(1), []byte{129, 0, 1}, []byte{1, 255}, []byte(text(3, 300)), uint8(9), uint8(0))
	f.Fuzz(func(t *testing.T, sectors uint8, first, second, text []byte, writes, choice uint8) {
		a := twin.Area{First: 1, Sectors: int(sectors % 16)}
		d := made(t, 1, 17)
		if a.Sectors < 2 {
			answers(t, d, a, text, api.ErrArg)
			return
		}
		from, to := span(a, 0)
		putHalf(t, d, a, 0, first[:min(len(first), (to-from)*sector)])
		putHalf(t, d, a, 1, second[:min(len(second), (to-from)*sector)])
		tells(t, d, a)
		if len(text) > twin.Room(a) {
			if err := twin.Save(d, a, text); err != error(api.ErrLong) {
				t.Fatalf("Save of %d bytes in %v: %v", len(text), a, err)
			}
			return
		}
		old, number, _ := told(t, d, a)
		if number == math.MaxUint64 {
			return
		}
		follows(t, d.Clone(), a, string(text))
		if err := d.Arm(int(writes)); err != nil {
			t.Fatal(err)
		}
		err := twin.Save(d, a, text)
		choices := make([]int, 8)
		for i := range choices {
			choices[i], choice = int(choice%3), choice/3*5+choice%3
		}
		d.Restart(choices)
		either(t, d, a, old, string(text), number, err, "fuzzed")
	})
}
