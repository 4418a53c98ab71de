package journal_test

import (
	"bytes"
	"fmt"
	"math"
	"math/big"
	"math/rand"
	"slices"
	"testing"

	"barbican/api"
	"barbican/disk"
	"barbican/journal"
)

const sector = api.SectorSize

// unarmed is more writes than a test does.
const unarmed = 1 << 30

// tooLong is a payload of one byte too many.
var tooLong = make([]byte, api.MaxBlob+1)

// groups is a number by the words of layer 3: groups of seven bits, the lowest first, as few as can be.
func groups(n uint64) []byte {
	var out []byte
	for n > 127 {
		out = append(out, byte(128+n%128))
		n /= 128
	}
	return append(out, byte(n))
}

// sumOf is the sum of bytes by the words of layer 4, reckoned bit by bit.
func sumOf(b []byte) []byte {
	state := uint32(math.MaxUint32)
	for _, c := range b {
		state ^= uint32(c)
		for range 8 {
			odd := state%2 == 1
			state /= 2
			if odd {
				state ^= 0xedb88320
			}
		}
	}
	sum := state ^ math.MaxUint32
	return []byte{byte(sum / (1 << 24)), byte(sum / (1 << 16) % 256), byte(sum / (1 << 8) % 256), byte(sum % 256)}
}

// framed is a record by the words of layer 10.
func framed(epoch uint64, payload []byte) []byte {
	b := slices.Concat(groups(uint64(len(payload))), groups(epoch), payload)
	return append(b, sumOf(b)...)
}

// rowOf is the bytes of records, one behind the other.
func rowOf(epoch uint64, payloads [][]byte) []byte {
	var out []byte
	for _, payload := range payloads {
		out = append(out, framed(epoch, payload)...)
	}
	return out
}

// number is the number that bytes begin with, in whatever way it is said, and how many bytes say it.
func number(b []byte) (*big.Int, int) {
	n := new(big.Int)
	for i, c := range b {
		n.Add(n, new(big.Int).Lsh(big.NewInt(int64(c%128)), uint(7*i)))
		if c < 128 {
			return n, i + 1
		}
	}
	return n, len(b)
}

// scan is the row of bytes: what a record may say is guessed, framed, and held against them.
func scan(epoch uint64, b []byte) ([][]byte, int) {
	var out [][]byte
	at := 0
	for {
		length, first := number(b[at:])
		from := at + first + len(groups(epoch))
		if from > len(b) || length.Sign() == 0 || length.Cmp(big.NewInt(int64(len(b)-from))) > 0 {
			return out, at
		}
		payload := b[from : from+int(length.Int64())]
		whole := framed(epoch, payload)
		if !bytes.HasPrefix(b[at:], whole) {
			return out, at
		}
		out, at = append(out, payload), at+len(whole)
	}
}

// made is a device.
func made(t testing.TB, regions, sectors int) *disk.Disk {
	t.Helper()
	d, err := disk.New(regions, sectors)
	if d == nil || err != nil {
		t.Fatalf("New(%d, %d): %v, %v", regions, sectors, d, err)
	}
	return d
}

// noisy is a device of which each sector holds other bytes, none of which is the begin of a record.
func noisy(t testing.TB, regions, sectors int) *disk.Disk {
	t.Helper()
	d := made(t, regions, sectors)
	for r := range regions {
		for s := range sectors {
			put(t, d, r, s, bytes.Repeat([]byte{byte(200 + (r*7+s)%50)}, sector))
		}
	}
	return d
}

// put lays bytes into sectors, and makes them safe.
func put(t testing.TB, d *disk.Disk, region, first int, b []byte) {
	t.Helper()
	for part := range slices.Chunk(b, sector) {
		if err := d.Write(region, first, part); err != nil {
			t.Fatalf("Write(%d, %d): %v", region, first, err)
		}
		first++
	}
	if err := d.Sync(region); err != nil {
		t.Fatal(err)
	}
}

// fill lays bytes into an area, as many as it has room for, and noughts behind them.
func fill(t testing.TB, d *disk.Disk, a journal.Area, b []byte) {
	t.Helper()
	all := make([]byte, a.Sectors*sector)
	copy(all, b)
	put(t, d, a.Region, a.First, all)
}

// image is what all sectors of a device read as, by regions.
func image(t testing.TB, d *disk.Disk) [][][]byte {
	t.Helper()
	regions, sectors := d.Size()
	out := make([][][]byte, regions)
	for r := range regions {
		for s := range sectors {
			b, err := d.Read(r, s)
			if err != nil {
				t.Fatalf("Read(%d, %d): %v", r, s, err)
			}
			out[r] = append(out[r], b)
		}
	}
	return out
}

// same tells whether two images are the same.
func same(x, y [][][]byte) bool {
	return slices.EqualFunc(x, y, sameLists)
}

// sameLists tells whether two lists hold the same bytes.
func sameLists(x, y [][]byte) bool { return slices.EqualFunc(x, y, bytes.Equal) }

// bytesOf are the bytes of an area.
func bytesOf(t testing.TB, d *disk.Disk, a journal.Area) []byte {
	t.Helper()
	var out []byte
	for i := range a.Sectors {
		b, err := d.Read(a.Region, a.First+i)
		if err != nil {
			t.Fatal(err)
		}
		out = append(out, b...)
	}
	return out
}

// arm lets so many writes go well.
func arm(t testing.TB, d *disk.Disk, n int) {
	t.Helper()
	if err := d.Arm(n); err != nil {
		t.Fatal(err)
	}
}

// crash crashes a device with a write of a sector.
func crash(t testing.TB, d *disk.Disk, region, at int) {
	t.Helper()
	arm(t, d, 0)
	if err := d.Write(region, at, []byte("crash")); err != error(api.ErrDisk) {
		t.Fatal(err)
	}
}

// pendings are the sectors of all regions that are not safe.
func pendings(d *disk.Disk) [][]int {
	regions, _ := d.Size()
	out := make([][]int, regions)
	for r := range regions {
		out[r] = d.Pending(r)
	}
	return out
}

// mixed are n bytes in no order that can be seen, always the same ones of a tag.
func mixed(tag, n int) []byte {
	out := make([]byte, n)
	rand.New(rand.NewSource(int64(tag*100003 + n))).Read(out)
	return out
}

// sized is a payload of which the record of an epoch has size bytes, nil if there is none.
func sized(tag int, epoch uint64, size int) []byte {
	for n := 1; n < size; n++ {
		if len(groups(uint64(n)))+len(groups(epoch))+n+4 == size {
			return mixed(tag, n)
		}
	}
	return nil
}

// areas are some in a device of 3 regions of 9 sectors: of one sector, of several, of all, at the begin, at the end, between.
func areas() []journal.Area {
	return []journal.Area{
		{Region: 0, First: 0, Sectors: 1}, {Region: 1, First: 8, Sectors: 1}, {Region: 2, First: 4, Sectors: 1},
		{Region: 0, First: 0, Sectors: 2}, {Region: 1, First: 7, Sectors: 2}, {Region: 2, First: 3, Sectors: 3},
		{Region: 1, First: 0, Sectors: 9}, {Region: 2, First: 0, Sectors: 9}, {Region: 0, First: 1, Sectors: 8}, {Region: 1, First: 4, Sectors: 5},
	}
}

// epochs are those at which a number takes another byte, and the least and the greatest ones.
func epochs() []uint64 { return []uint64{0, 1, 2, 127, 128, 1 << 32, math.MaxUint64} }

// payloads are rows of them: none, one, several in a sector, one in several sectors, noughts, what looks like a record itself.
func payloads() [][][]byte {
	return [][][]byte{
		{},
		{[]byte("a")},
		{[]byte("a"), []byte("b"), []byte("c")},
		{{0}, {0}, {0}, {0}, {0}},
		{mixed(1, 58)},
		{mixed(1, 58), mixed(2, 58), mixed(3, 58)},
		{mixed(1, 26), mixed(2, 26), mixed(3, 26)},
		{mixed(1, 57), mixed(2, 59), []byte("a")},
		{mixed(1, 130), []byte("behind")},
		{[]byte("ahead"), mixed(1, 300), []byte("behind")},
		{make([]byte, 200), []byte("noughts ahead")},
		{[]byte("a"), make([]byte, 400)},
		{framed(1, []byte("in")), framed(2, []byte("a record in a record"))},
	}
}

// tails are what may stand behind records, and is none of an epoch.
func tails(epoch uint64) [][]byte {
	whole := framed(epoch, []byte("tail"))
	turned := slices.Clone(whole)
	turned[len(turned)-1] ^= 1
	return [][]byte{
		{}, make([]byte, 100), {1}, {0, 1}, append(make([]byte, sector-1), 1), append(make([]byte, sector), 1), append(make([]byte, 2*sector+5), 255),
		bytes.Repeat([]byte{255}, sector), bytes.Repeat([]byte{1}, 9*sector), framed(epoch+1, []byte("other")), framed(epoch+1, mixed(1, 100)),
		whole[:len(whole)-1], turned, append([]byte{0}, whole...), append(make([]byte, 31), rowOf(epoch, [][]byte{{1}, {2}, mixed(3, 90)})...),
		append(bytes.Repeat([]byte{128}, 12), whole...), mixed(5, 9*sector),
	}
}

// change is a sector that is written.
type change struct {
	at   int
	held []byte
}

// places are the sectors of changes.
func places(l []change) []int {
	var out []int
	for _, c := range l {
		out = append(out, c.at)
	}
	return out
}

// changed is an image with changes of a region.
func changed(x [][][]byte, region int, l []change) [][][]byte {
	out := make([][][]byte, len(x))
	for r := range x {
		out[r] = slices.Clone(x[r])
	}
	for _, c := range l {
		out[region][c.at] = c.held
	}
	return out
}

// laid are the bytes of an area with a row at its begin, by sectors.
func laid(a journal.Area, row []byte) [][]byte {
	all := make([]byte, a.Sectors*sector)
	copy(all, row)
	return slices.Collect(slices.Chunk(all, sector))
}

// cleaning are the sectors that must be written by JN1, so that behind a row there are noughts alone.
func cleaning(t testing.TB, d *disk.Disk, a journal.Area, row []byte) []change {
	t.Helper()
	var out []change
	held := bytesOf(t, d, a)
	for i, want := range laid(a, row) {
		for k := i * sector; k < (i+1)*sector; k++ {
			if k >= len(row) && held[k] != 0 {
				out = append(out, change{a.First + i, want})
				break
			}
		}
	}
	return out
}

// flushing are the sectors that must be written by JN2, where the bytes of a row wait from one on.
func flushing(a journal.Area, row []byte, from int) []change {
	var out []change
	for i, want := range laid(a, row) {
		for k := i * sector; k < (i+1)*sector; k++ {
			if k >= from && k < len(row) {
				out = append(out, change{a.First + i, want})
				break
			}
		}
	}
	return out
}

// does does something to copies of a device, with each number of writes that is too few, and then to itself: these sectors must be written, in order, and the region must be synced behind them, if there are any.
func does(t testing.TB, d *disk.Disk, region int, want []change, do func(d *disk.Disk) error) {
	t.Helper()
	before, pending := image(t, d), pendings(d)
	for n := range want {
		short := d.Clone()
		arm(t, short, n)
		if err := do(short); err != error(api.ErrDisk) || !short.Crashed() {
			t.Fatalf("with %d of %d writes: %v, crashed %t", n, len(want), err, short.Crashed())
		}
		now := slices.Clone(pending)
		now[region] = slices.Compact(slices.Sorted(slices.Values(slices.Concat(pending[region], places(want[:n+1])))))
		if got := pendings(short); !slices.EqualFunc(got, now, slices.Equal) {
			t.Fatalf("with %d of %d writes: pending %v, not %v", n, len(want), got, now)
		}
		short.Restart(slices.Repeat([]int{1}, 1000))
		if !same(image(t, short), changed(before, region, want[:n+1])) {
			t.Fatalf("with %d of %d writes: something else is written", n, len(want))
		}
	}
	arm(t, d, len(want))
	if err := do(d); err != nil || d.Crashed() {
		t.Fatalf("with all %d writes: %v, crashed %t", len(want), err, d.Crashed())
	}
	arm(t, d, unarmed)
	if !same(image(t, d), changed(before, region, want)) {
		t.Fatalf("with all %d writes: something else is written", len(want))
	}
	if len(want) > 0 {
		pending[region] = nil
	}
	if got := pendings(d); !slices.EqualFunc(got, pending, slices.Equal) {
		t.Fatalf("with all %d writes: pending %v, not %v", len(want), got, pending)
	}
}

// log is a journal, and what it must tell by the words.
type log struct {
	d                *disk.Disk
	a                journal.Area
	epoch            uint64
	flushed, waiting [][]byte
	j                *journal.Journal
}

// row is the bytes of all records.
func (l *log) row() []byte { return rowOf(l.epoch, slices.Concat(l.flushed, l.waiting)) }

// tells asks for all that JN3 says.
func (l *log) tells(t testing.TB) {
	t.Helper()
	size := len(l.row())
	if l.j.Len() != size || l.j.Room() != l.a.Sectors*sector-size || l.j.Waits() != len(l.waiting) || l.j.Epoch() != l.epoch {
		t.Fatalf("Len %d, Room %d, Waits %d, Epoch %d, not %d, %d, %d, %d", l.j.Len(), l.j.Room(), l.j.Waits(), l.j.Epoch(), size, l.a.Sectors*sector-size, len(l.waiting), l.epoch)
	}
}

// opens opens a journal, and holds what it tells and writes against JN1.
func opens(t testing.TB, d *disk.Disk, a journal.Area, epoch uint64) *log {
	t.Helper()
	held, size := scan(epoch, bytesOf(t, d, a))
	l := &log{d: d, a: a, epoch: epoch, flushed: held}
	does(t, d, a.Region, cleaning(t, d, a, bytesOf(t, d, a)[:size]), func(on *disk.Disk) error {
		j, got, err := journal.Open(on, a, epoch)
		if err != nil && (j != nil || len(got) != 0) {
			t.Fatalf("Open: %v, %q beside %v", j, got, err)
		}
		if err == nil && (j == nil || !sameLists(got, held)) {
			t.Fatalf("Open of %v: %q, not %q", a, got, held)
		}
		l.j = j
		return err
	})
	l.tells(t)
	return l
}

// on is a journal in the same state on a copy of the device.
func (l *log) on(t testing.TB, d *disk.Disk) *journal.Journal {
	t.Helper()
	j, got, err := journal.Open(d, l.a, l.epoch)
	if j == nil || !sameLists(got, l.flushed) || err != nil {
		t.Fatalf("Open of a copy of %v: %q, %v, not %q", l.a, got, err, l.flushed)
	}
	for _, payload := range l.waiting {
		if err := j.Append(payload); err != nil {
			t.Fatal(err)
		}
	}
	return j
}

// does does something to the journal, and to copies with too few writes: the error is answered for good there.
func (l *log) does(t testing.TB, want []change, do func(j *journal.Journal) error) {
	t.Helper()
	does(t, l.d, l.a.Region, want, func(on *disk.Disk) error {
		if on == l.d {
			return do(l.j)
		}
		j := l.on(t, on)
		err := do(j)
		failsForGood(t, j, on, err)
		return err
	})
}

// failsForGood asks all four for an error, whatever they are given; what the journal tells and what the device holds stay.
func failsForGood(t testing.TB, j *journal.Journal, d *disk.Disk, want error) {
	t.Helper()
	size, room, waits, epoch := j.Len(), j.Room(), j.Waits(), j.Epoch()
	pending := pendings(d)
	for range 2 {
		for _, payload := range [][]byte{nil, {1}, tooLong[:api.MaxBlob], tooLong} {
			if err := j.Append(payload); err != want {
				t.Fatalf("Append of %d bytes behind an error of the device: %v, not %v", len(payload), err, want)
			}
		}
		if err := j.Flush(); err != want {
			t.Fatalf("Flush behind an error of the device: %v, not %v", err, want)
		}
		for _, n := range []int{math.MinInt, -1, 0, 1, 2, 1000, math.MaxInt} {
			if err := j.Cut(n); err != want {
				t.Fatalf("Cut(%d) behind an error of the device: %v, not %v", n, err, want)
			}
		}
		for _, e := range []uint64{0, epoch, epoch + 1} {
			if err := j.Rewind(e); err != want {
				t.Fatalf("Rewind(%d) behind an error of the device: %v, not %v", e, err, want)
			}
		}
	}
	if j.Len() != size || j.Room() != room || j.Waits() != waits || j.Epoch() != epoch {
		t.Fatal("a journal is changed behind an error of the device")
	}
	if !slices.EqualFunc(pendings(d), pending, slices.Equal) {
		t.Fatal("a device is changed behind its error")
	}
}

// append lays a payload behind, if there is room for it.
func (l *log) append(t testing.TB, payload []byte) {
	t.Helper()
	room := l.a.Sectors*sector - len(l.row())
	err := l.j.Append(payload)
	if len(framed(l.epoch, payload)) > room {
		if err != error(api.ErrFull) {
			t.Fatalf("Append of %d bytes with room for %d: %v", len(payload), room, err)
		}
	} else {
		if err != nil {
			t.Fatalf("Append of %d bytes with room for %d: %v", len(payload), room, err)
		}
		l.waiting = append(l.waiting, payload)
	}
	l.tells(t)
}

// flush makes all safe.
func (l *log) flush(t testing.TB) {
	t.Helper()
	l.does(t, flushing(l.a, l.row(), len(rowOf(l.epoch, l.flushed))), (*journal.Journal).Flush)
	l.flushed, l.waiting = append(l.flushed, l.waiting...), nil
	l.tells(t)
}

// rewind begins anew.
func (l *log) rewind(t testing.TB, epoch uint64) {
	t.Helper()
	l.does(t, cleaning(t, l.d, l.a, nil), func(j *journal.Journal) error { return j.Rewind(epoch) })
	l.epoch, l.flushed, l.waiting = epoch, nil, nil
	l.tells(t)
}

// cut leaves the first n.
func (l *log) cut(t testing.TB, n int) {
	t.Helper()
	left := l.flushed[:n]
	l.does(t, cleaning(t, l.d, l.a, rowOf(l.epoch, left)), func(j *journal.Journal) error { return j.Cut(n) })
	l.flushed = slices.Clone(left)
	l.tells(t)
}

// lays lays payloads behind, and makes them safe.
func (l *log) lays(t testing.TB, payloads ...[]byte) {
	t.Helper()
	for _, payload := range payloads {
		l.append(t, payload)
	}
	l.flush(t)
}

// stays asks for the flushed records behind a restart that keeps nothing else.
func (l *log) stays(t testing.TB) {
	t.Helper()
	d := l.d.Clone()
	d.Restart(nil)
	other := opens(t, d, l.a, l.epoch)
	if !sameLists(other.flushed, l.flushed) {
		t.Fatalf("behind a restart: %q, not %q", other.flushed, l.flushed)
	}
}

func TestJN1Example(t *testing.T) {
	d := made(t, 1, 8)
	a := journal.Area{Sectors: 8}
	l := opens(t, d, a, 1)
	l.append(t, []byte("a"))
	l.flush(t)
	l.append(t, []byte("b"))
	d.Restart(nil)
	if _, got, err := journal.Open(d, a, 1); !sameLists(got, [][]byte{[]byte("a")}) || err != nil {
		t.Errorf("Open: %q, %v", got, err)
	}
}

// A device with nothing on it: nothing is told, written or synced.
func TestJN1Nothing(t *testing.T) {
	for _, a := range areas() {
		for _, epoch := range epochs() {
			d := made(t, 3, 9)
			if l := opens(t, d, a, epoch); len(l.flushed) != 0 || l.j.Len() != 0 || l.j.Room() != a.Sectors*sector {
				t.Fatalf("Open of %v with nothing on it: %q", a, l.flushed)
			}
		}
	}
}

// Rows, and what may stand behind them: it is noughts then, and nothing else in the device is written.
func TestJN1Rows(t *testing.T) {
	for _, a := range areas() {
		for _, epoch := range epochs() {
			for _, row := range payloads() {
				for _, tail := range tails(epoch) {
					b := append(rowOf(epoch, row), tail...)
					d := noisy(t, 3, 9)
					fill(t, d, a, b[:min(len(b), a.Sectors*sector)])
					l := opens(t, d, a, epoch)
					if len(b) <= a.Sectors*sector && !sameLists(l.flushed, row) {
						t.Fatalf("Open of %v: %q, not %q", a, l.flushed, row)
					}
					if got := bytesOf(t, d, a); !bytes.Equal(got, slices.Concat(laid(a, l.row())...)) {
						t.Fatalf("Open of %v: other bytes than noughts behind the row", a)
					}
				}
			}
		}
	}
}

// A row that fills its area to the last byte, and rows that lack up to three bytes of that.
func TestJN1Full(t *testing.T) {
	for _, a := range areas() {
		for _, epoch := range []uint64{1, 300} {
			for less := range 4 {
				row := [][]byte{[]byte("first"), sized(1, epoch, a.Sectors*sector-len(framed(epoch, []byte("first")))-less)}
				if row[1] == nil {
					continue // where a length takes another byte, no record has that size
				}
				d := noisy(t, 3, 9)
				fill(t, d, a, rowOf(epoch, row))
				l := opens(t, d, a, epoch)
				if !sameLists(l.flushed, row) || l.j.Room() != less {
					t.Fatalf("Open of %v: %q, Room %d", a, l.flushed, l.j.Room())
				}
				// a byte behind the row, in its last sector
				if less > 0 {
					fill(t, d, a, append(rowOf(epoch, row), 1))
					if other := opens(t, d, a, epoch); !sameLists(other.flushed, row) {
						t.Fatalf("Open of %v with a byte more: %q", a, other.flushed)
					}
				}
			}
		}
	}
}

// A record that goes on behind the area is none, though all its bytes stand there.
func TestJN1BeyondTheArea(t *testing.T) {
	for _, a := range []journal.Area{{Region: 0, First: 0, Sectors: 1}, {Region: 1, First: 2, Sectors: 2}, {Region: 2, First: 1, Sectors: 4}} {
		for more := -3; more <= 70; more++ {
			payload := sized(1, 1, a.Sectors*sector+more)
			if payload == nil {
				continue
			}
			d := noisy(t, 3, 9)
			put(t, d, a.Region, a.First, framed(1, payload))
			l := opens(t, d, a, 1)
			if (len(l.flushed) == 1) != (more <= 0) {
				t.Fatalf("Open of %v with a record of %d bytes more: %d told", a, more, len(l.flushed))
			}
		}
	}
}

// Records of another epoch are not told, and noughts stand in their place.
func TestJN1OtherEpoch(t *testing.T) {
	for _, a := range areas() {
		for _, old := range epochs() {
			for _, epoch := range epochs() {
				if old == epoch {
					continue
				}
				d := noisy(t, 3, 9)
				l := opens(t, d, a, old)
				l.lays(t, []byte("old"), []byte("older"), mixed(1, 40), mixed(2, 300))
				other := opens(t, d, a, epoch)
				if len(other.flushed) != 0 {
					t.Fatalf("Open of the epoch %d tells records of %d: %q", epoch, old, other.flushed)
				}
				if again := opens(t, d, a, old); len(again.flushed) != 0 {
					t.Fatalf("records of the epoch %d are left: %q", old, again.flushed)
				}
			}
		}
	}
}

// The region is synced if a sector was written, with whatever was pending there; no other one is, and none if nothing was written.
func TestJN1Syncs(t *testing.T) {
	a := journal.Area{Region: 1, First: 2, Sectors: 4}
	for _, b := range [][]byte{{}, rowOf(1, [][]byte{[]byte("a"), mixed(1, 90)}), {1}, append(rowOf(1, [][]byte{[]byte("a")}), 1)} {
		d := made(t, 3, 9)
		fill(t, d, a, b)
		for r := range 3 {
			for _, s := range []int{0, 6, 8} {
				if err := d.Write(r, s, []byte("pending")); err != nil {
					t.Fatal(err)
				}
			}
		}
		_, size := scan(1, b)
		opens(t, d, a, 1)
		if synced := len(d.Pending(1)) == 0; synced != (len(b) > size) || len(d.Pending(0)) != 3 || len(d.Pending(2)) != 3 {
			t.Errorf("Open with %d bytes behind the row: pending %v", len(b)-size, pendings(d))
		}
	}
}

// What is written and not yet synced reads as it was written.
func TestJN1Pending(t *testing.T) {
	d := made(t, 1, 4)
	a := journal.Area{Sectors: 4}
	if err := d.Write(0, 0, framed(1, []byte("a"))); err != nil {
		t.Fatal(err)
	}
	if l := opens(t, d, a, 1); len(l.flushed) != 1 {
		t.Errorf("Open: %q", l.flushed)
	}
	if got := d.Pending(0); !slices.Equal(got, []int{0}) {
		t.Errorf("Pending: %v", got)
	}
}

// wrongAreas are areas that are not in a device of 3 regions of 9 sectors, or have no sector.
func wrongAreas() []journal.Area {
	out := []journal.Area{
		{}, {First: 8}, {First: 9}, {First: 9, Sectors: 1}, {First: 10, Sectors: 1}, {Sectors: 10}, {First: 1, Sectors: 9}, {First: 8, Sectors: 2}, {First: 5, Sectors: 5},
		{First: math.MaxInt, Sectors: 1}, {First: math.MaxInt - 1, Sectors: 2}, {First: math.MaxInt, Sectors: 2}, {First: math.MaxInt, Sectors: math.MaxInt},
		{First: 1, Sectors: math.MaxInt}, {First: 2, Sectors: math.MaxInt}, {Sectors: math.MaxInt}, {First: math.MaxInt/2 + 1, Sectors: math.MaxInt/2 + 1}, {First: math.MaxInt/2 + 2, Sectors: math.MaxInt/2 + 3},
		{First: 1 << 32, Sectors: 1}, {Sectors: 1<<32 + 1}, {First: 1<<32 + 1, Sectors: 1}, {Region: 1 << 32, Sectors: 1}, {Sectors: api.MaxSectors}, {Sectors: api.MaxSectors + 1},
		{Region: -1, First: -1, Sectors: -1}, {Region: 3, First: 9, Sectors: 10}, {Region: 3, First: -1, Sectors: 1}, {First: -1, Sectors: 2}, {First: -1, Sectors: 10},
		{Region: math.MinInt, First: math.MinInt, Sectors: math.MinInt}, {Region: math.MaxInt, First: math.MaxInt, Sectors: math.MaxInt},
	}
	for _, n := range []int{-1, -2, -9, math.MinInt, math.MinInt + 1, math.MinInt32} {
		out = append(out, journal.Area{Region: n, Sectors: 1}, journal.Area{First: n, Sectors: 1}, journal.Area{First: n, Sectors: 9}, journal.Area{First: n, Sectors: math.MaxInt}, journal.Area{Sectors: n}, journal.Area{First: 3, Sectors: n})
	}
	for _, n := range []int{3, 4, 16, math.MaxInt32, math.MaxInt} {
		out = append(out, journal.Area{Region: n, Sectors: 1})
	}
	return out
}

// refuses asks Open for an error.
func refuses(t testing.TB, d *disk.Disk, a journal.Area, want error) {
	t.Helper()
	for _, epoch := range epochs() {
		if j, l, err := journal.Open(d, a, epoch); j != nil || len(l) != 0 || err != want {
			t.Errorf("Open of %v: %v, %q, %v, not %v", a, j, l, err, want)
		}
	}
}

// ErrArg comes first, whatever else could be told; a wrong call writes nothing.
func TestJN1WrongAreas(t *testing.T) {
	for _, a := range wrongAreas() {
		refuses(t, nil, a, api.ErrArg)
		d := noisy(t, 3, 9)
		before := image(t, d)
		arm(t, d, 0)
		refuses(t, d, a, api.ErrArg)
		if d.Crashed() || !same(before, image(t, d)) {
			t.Fatalf("the device is changed by a wrong area %v", a)
		}
		crash(t, d, 0, 0)
		refuses(t, d, a, api.ErrArg)
	}
	for _, a := range areas() {
		refuses(t, nil, a, api.ErrArg)
	}
}

// A crashed device is not read, whatever it holds.
func TestJN1Crashed(t *testing.T) {
	for _, a := range areas() {
		for _, b := range [][]byte{{}, framed(1, []byte("a")), {1}} {
			for r := range 3 {
				d := made(t, 3, 9)
				fill(t, d, a, b)
				crash(t, d, r, 0)
				refuses(t, d, a, api.ErrDisk)
				if got := d.Pending(r); !slices.Equal(got, []int{0}) || !d.Crashed() {
					t.Fatalf("a crashed device is changed: %v", got)
				}
			}
		}
	}
}

// The greatest region whole, and its last sector.
func TestJN1JN2Greatest(t *testing.T) {
	for _, a := range []journal.Area{{Region: 1, Sectors: api.MaxSectors}, {First: api.MaxSectors - 1, Sectors: 1}, {First: 1, Sectors: api.MaxSectors - 1}} {
		d := made(t, 2, api.MaxSectors)
		j, _, err := journal.Open(d, a, 1)
		if err != nil {
			t.Fatal(err)
		}
		if err := j.Append(make([]byte, api.MaxBlob)); err != error(api.ErrFull) {
			t.Errorf("Append of MaxBlob bytes in %v: %v", a, err)
		}
		full := sized(1, 1, a.Sectors*sector)
		if err := j.Append(append(full, 1)); err != error(api.ErrFull) || j.Len() != 0 {
			t.Errorf("Append of one byte too many in %v: %v, Len %d", a, err, j.Len())
		}
		if err := j.Append(full); err != nil || j.Room() != 0 {
			t.Errorf("Append of all bytes in %v: %v, Room %d", a, err, j.Room())
		}
		if err := j.Flush(); err != nil {
			t.Error(err)
		}
		d.Restart(nil)
		j, got, err := journal.Open(d, a, 1)
		if !sameLists(got, [][]byte{full}) || err != nil {
			t.Fatalf("Open of %v: %d records, %v", a, len(got), err)
		}
		if err := j.Rewind(2); err != nil || j.Len() != 0 {
			t.Error(err)
		}
		d.Restart(nil)
		if !bytes.Equal(bytesOf(t, d, a), make([]byte, a.Sectors*sector)) {
			t.Error("Rewind leaves other bytes than noughts")
		}
	}
}

// Records laid one behind the other and flushed by each number of them at once.
func TestJN2Flush(t *testing.T) {
	for _, a := range areas() {
		for _, epoch := range epochs() {
			for _, row := range payloads() {
				for at := 1; at <= 4; at++ {
					l := opens(t, noisy(t, 3, 9), a, epoch)
					for i, payload := range row {
						l.append(t, payload)
						if i%at == at-1 {
							l.flush(t)
						}
					}
					l.stays(t)
					l.flush(t)
					l.flush(t)
					l.stays(t)
				}
			}
		}
	}
}

// A record that fills its room to the last byte, and one that has a byte more.
func TestJN2Full(t *testing.T) {
	for _, a := range areas() {
		for _, epoch := range []uint64{0, 1, 128, math.MaxUint64} {
			for _, ahead := range [][][]byte{{}, {[]byte("a")}, {[]byte("a"), mixed(1, 30)}} {
				for _, flushed := range []bool{false, true} {
					l := opens(t, noisy(t, 3, 9), a, epoch)
					for _, payload := range ahead {
						l.append(t, payload)
					}
					if flushed {
						l.flush(t)
					}
					room := l.j.Room()
					full := sized(1, epoch, room)
					if full == nil {
						continue
					}
					l.append(t, append(slices.Clone(full), 1))
					if l.j.Room() != room {
						t.Fatalf("a byte more than there is room for: Room %d, not %d", l.j.Room(), room)
					}
					l.append(t, full)
					if l.j.Room() != 0 || l.j.Len() != a.Sectors*sector {
						t.Fatalf("a record of %d bytes leaves Room %d", room, l.j.Room())
					}
					l.append(t, []byte("a"))
					l.flush(t)
					l.append(t, []byte("a"))
					l.stays(t)
				}
			}
		}
	}
}

// Append's errors, in their order; none of them is answered for good, and the journal stays as it was.
func TestJN2AppendErrors(t *testing.T) {
	for _, a := range areas() {
		for _, row := range payloads() {
			l := opens(t, made(t, 3, 9), a, 1)
			for i, payload := range row {
				l.append(t, payload)
				if i == 0 {
					l.flush(t)
				}
			}
			for range 2 {
				before := image(t, l.d)
				for _, c := range []struct {
					payload []byte
					want    error
				}{
					{nil, api.ErrArg}, {[]byte{}, api.ErrArg}, {tooLong, api.ErrLong},
					{tooLong[:api.MaxBlob], api.ErrFull}, {tooLong[:l.j.Room()], api.ErrFull}, {tooLong[:l.j.Room()+1], api.ErrFull},
				} {
					if len(c.payload) == 0 {
						c.want = api.ErrArg
					}
					if err := l.j.Append(c.payload); err != c.want {
						t.Fatalf("Append of %d bytes with room for %d: %v, not %v", len(c.payload), l.j.Room(), err, c.want)
					}
					l.tells(t)
				}
				if !same(before, image(t, l.d)) {
					t.Fatal("Append writes")
				}
				// and the same with no room left
				if full := sized(1, 1, l.j.Room()); full != nil {
					l.append(t, full)
				}
			}
			l.flush(t)
			l.stays(t)
		}
	}
}

// Append leaves the device alone: it goes well where it has crashed, and what waits is flushed when it was started anew.
func TestJN2AppendLeavesTheDevice(t *testing.T) {
	for _, a := range areas() {
		l := opens(t, made(t, 3, 9), a, 1)
		l.lays(t, []byte("a"))
		arm(t, l.d, 0)
		l.append(t, []byte("b"))
		if l.d.Crashed() || len(l.d.Pending(a.Region)) != 0 {
			t.Fatal("Append writes")
		}
		crash(t, l.d, 0, 0)
		l.append(t, []byte("c"))
		l.d.Restart(nil)
		l.append(t, []byte("d"))
		l.flush(t)
		l.stays(t)
	}
}

// If none waits Flush does nothing: it writes nothing, syncs nothing, and does not ask the device.
func TestJN2FlushOfNone(t *testing.T) {
	for _, a := range areas() {
		for records := range 3 {
			l := opens(t, made(t, 3, 9), a, 1)
			for range records {
				l.lays(t, []byte("a"))
			}
			for _, s := range []int{0, 8} {
				if err := l.d.Write(a.Region, s, []byte("pending")); err != nil {
					t.Fatal(err)
				}
			}
			before := image(t, l.d)
			arm(t, l.d, 0)
			if err := l.j.Flush(); err != nil || l.d.Crashed() || len(l.d.Pending(a.Region)) != 2 || !same(before, image(t, l.d)) {
				t.Fatalf("Flush with none waiting: %v, crashed %t, pending %v", err, l.d.Crashed(), l.d.Pending(a.Region))
			}
			crash(t, l.d, a.Region, 0)
			if err := l.j.Flush(); err != nil {
				t.Fatalf("Flush with none waiting, of a crashed device: %v", err)
			}
			l.tells(t)
		}
	}
}

// What is not of the area is not written by any call, and a sync makes safe what was pending in the region.
func TestJN2Syncs(t *testing.T) {
	a := journal.Area{Region: 1, First: 2, Sectors: 4}
	for name, do := range map[string]func(l *log){
		"Flush":  func(l *log) { l.lays(t, []byte("b"), mixed(1, 100)) },
		"Rewind": func(l *log) { l.rewind(t, 2) },
		"Cut":    func(l *log) { l.cut(t, 0) },
	} {
		l := opens(t, noisy(t, 3, 9), a, 1)
		l.lays(t, []byte("a"))
		for r := range 3 {
			for _, s := range []int{0, 6, 8} {
				if err := l.d.Write(r, s, []byte("pending")); err != nil {
					t.Fatal(err)
				}
			}
		}
		do(l)
		for r, want := range [][]int{{0, 6, 8}, {}, {0, 6, 8}} {
			if got := l.d.Pending(r); !slices.Equal(got, want) {
				t.Errorf("%s: Pending(%d): %v, not %v", name, r, got, want)
			}
		}
	}
}

// Rewind of each row, flushed and waiting, to the same epoch and to other ones; what is laid then is told alone.
func TestJN2Rewind(t *testing.T) {
	for _, a := range areas() {
		for _, epoch := range []uint64{0, 1, 128} {
			for _, next := range []uint64{0, 1, math.MaxUint64} {
				for _, row := range payloads() {
					for flushed := range len(row) + 1 {
						l := opens(t, noisy(t, 3, 9), a, epoch)
						l.lays(t, row[:flushed]...)
						for _, payload := range row[flushed:] {
							l.append(t, payload)
						}
						l.rewind(t, next)
						if len(l.flushed) != 0 || l.j.Len() != 0 || l.j.Waits() != 0 || l.j.Epoch() != next || l.j.Room() != a.Sectors*sector {
							t.Fatal("Rewind leaves something")
						}
						l.stays(t)
						l.lays(t, []byte("new"), mixed(9, 44))
						l.stays(t)
						l.rewind(t, next)
						l.rewind(t, epoch)
						l.stays(t)
					}
				}
			}
		}
	}
}

// Rewind of what waits alone, and of an empty journal, writes nothing and syncs nothing.
func TestJN2RewindOfNothing(t *testing.T) {
	for _, a := range areas() {
		for waits := range 3 {
			l := opens(t, made(t, 3, 9), a, 1)
			for range waits {
				l.append(t, []byte("waits"))
			}
			if err := l.d.Write(a.Region, 0, make([]byte, sector)); err != nil {
				t.Fatal(err)
			}
			arm(t, l.d, 0)
			if err := l.j.Rewind(2); err != nil || l.d.Crashed() || len(l.d.Pending(a.Region)) != 1 {
				t.Fatalf("Rewind with %d waiting: %v, crashed %t, pending %v", waits, err, l.d.Crashed(), l.d.Pending(a.Region))
			}
		}
	}
}

// Sectors of noughts within a record are not written by Rewind and Cut: they hold no other byte.
func TestJN2NoughtsWithin(t *testing.T) {
	a := journal.Area{Region: 1, First: 1, Sectors: 8}
	row := [][]byte{[]byte("a"), make([]byte, 400)}
	for name, do := range map[string]func(j *journal.Journal) error{
		"Rewind": func(j *journal.Journal) error { return j.Rewind(2) },
		"Cut":    func(j *journal.Journal) error { return j.Cut(0) },
		"Cut 1":  func(j *journal.Journal) error { return j.Cut(1) },
	} {
		l := opens(t, noisy(t, 3, 9), a, 1)
		l.lays(t, row...)
		arm(t, l.d, 2)
		if err := do(l.j); err != nil || l.d.Crashed() {
			t.Errorf("%s writes more than the first and the last sector: %v", name, err)
		}
		l = opens(t, noisy(t, 3, 9), a, 1)
		l.lays(t, row...)
		arm(t, l.d, 1)
		if err := do(l.j); err != error(api.ErrDisk) || !slices.Equal(l.d.Pending(1), []int{1, 7}) {
			t.Errorf("%s: %v, pending %v", name, err, l.d.Pending(1))
		}
	}
}

// Cut of each row to each number of records; what is laid then stands right behind them.
func TestJN2Cut(t *testing.T) {
	for _, a := range areas() {
		for _, epoch := range []uint64{0, 1, 128} {
			for _, row := range payloads() {
				begin := opens(t, noisy(t, 3, 9), a, epoch)
				begin.lays(t, row...)
				for n := range len(begin.flushed) + 1 {
					for _, reopened := range []bool{false, true} {
						l := opens(t, begin.d.Clone(), a, epoch)
						if !reopened {
							l.rewind(t, epoch)
							l.lays(t, begin.flushed...)
						}
						l.cut(t, n)
						if len(l.flushed) != n {
							t.Fatalf("Cut(%d): %d left", n, len(l.flushed))
						}
						l.stays(t)
						l.cut(t, n)
						l.lays(t, []byte("new"), mixed(9, 44))
						l.stays(t)
						l.cut(t, len(l.flushed))
						l.cut(t, 0)
						l.stays(t)
					}
				}
			}
		}
	}
}

// Wrong cuts: ErrArg, and nothing is changed; it is not answered for good.
func TestJN2WrongCuts(t *testing.T) {
	for _, a := range areas() {
		for records := range 4 {
			for waits := range 3 {
				l := opens(t, made(t, 3, 9), a, 1)
				for range records {
					l.append(t, []byte("a"))
				}
				l.flush(t)
				for range waits {
					l.append(t, []byte("w"))
				}
				arm(t, l.d, 0)
				wrong := []int{math.MinInt, math.MinInt32, -2, -1, records + waits + 1, 1 << 32, math.MaxInt}
				if waits > 0 {
					for n := range records + waits + 1 {
						wrong = append(wrong, n)
					}
				}
				for _, n := range wrong {
					if err := l.j.Cut(n); err != error(api.ErrArg) {
						t.Fatalf("Cut(%d) of %d records of which %d wait: %v", n, records+waits, waits, err)
					}
					l.tells(t)
				}
				if l.d.Crashed() {
					t.Fatal("a wrong Cut writes")
				}
				arm(t, l.d, unarmed)
				l.flush(t)
				l.cut(t, len(l.flushed))
				l.stays(t)
				// Also of a crashed device it is the number that is wrong.
				crash(t, l.d, 0, 0)
				for _, n := range []int{-1, len(l.flushed) + 1} {
					if err := l.j.Cut(n); err != error(api.ErrArg) {
						t.Fatalf("Cut(%d) of a crashed device: %v", n, err)
					}
				}
			}
		}
	}
}

// What lies in the area's sectors is asked of the device: bytes that came there otherwise go with Rewind and Cut too.
func TestJN2OtherBytes(t *testing.T) {
	a := journal.Area{Region: 1, First: 2, Sectors: 5}
	for _, records := range []int{0, 1, 12} {
		for at := range 5 {
			for name, do := range map[string]func(l *log){
				"Rewind": func(l *log) { l.rewind(t, 1) },
				"Cut":    func(l *log) { l.cut(t, 0) },
			} {
				l := opens(t, made(t, 3, 9), a, 1)
				for range records {
					l.append(t, []byte("a"))
				}
				l.flush(t)
				put(t, l.d, 1, 2+at, bytes.Repeat([]byte{7}, sector))
				if err := l.d.Write(1, 8, []byte("pending")); err != nil {
					t.Fatal(err)
				}
				arm(t, l.d, unarmed)
				if name == "Rewind" && l.j.Rewind(1) != nil || name == "Cut" && l.j.Cut(0) != nil {
					t.Fatal(name)
				}
				if !bytes.Equal(bytesOf(t, l.d, a), make([]byte, 5*sector)) || len(l.d.Pending(1)) != 0 {
					t.Fatalf("%s leaves other bytes than noughts", name)
				}
				l.flushed = nil
				do(l)
				l.lays(t, []byte("new"))
				l.stays(t)
			}
		}
	}
}

// A device that has crashed meanwhile: Flush of what waits, Rewind and Cut answer its error, and from then on all four.
func TestJN2CrashedMeanwhile(t *testing.T) {
	for _, a := range areas() {
		for records := range 3 {
			for name, do := range map[string]func(j *journal.Journal) error{
				"Flush":           func(j *journal.Journal) error { _ = j.Append([]byte("w")); return j.Flush() },
				"Rewind":          func(j *journal.Journal) error { return j.Rewind(2) },
				"Cut to none":     func(j *journal.Journal) error { return j.Cut(0) },
				"Cut to all":      func(j *journal.Journal) error { return j.Cut(records) },
				"Cut to one less": func(j *journal.Journal) error { return j.Cut(max(0, records-1)) },
			} {
				l := opens(t, made(t, 3, 9), a, 1)
				for range records {
					l.lays(t, []byte("a"))
				}
				for r := range 3 {
					d := l.d.Clone()
					j := l.on(t, d)
					crash(t, d, r, 8)
					if err := do(j); err != error(api.ErrDisk) {
						t.Fatalf("%s of a crashed device: %v", name, err)
					}
					failsForGood(t, j, d, api.ErrDisk)
					d.Restart(nil)
					failsForGood(t, j, d, api.ErrDisk)
				}
			}
		}
	}
}

// The device crashing at each write of a Flush, of a Rewind and of a Cut: its error is answered for good, also when it was started anew, and nothing is written any more.
func TestJN2ForGood(t *testing.T) {
	a := journal.Area{Region: 1, First: 1, Sectors: 6}
	begin := opens(t, noisy(t, 2, 8), a, 1)
	begin.lays(t, mixed(1, 50), mixed(2, 70), []byte("a"))
	for name, do := range map[string]func(j *journal.Journal) error{
		"Flush":           func(j *journal.Journal) error { _ = j.Append(mixed(3, 120)); return j.Flush() },
		"Rewind":          func(j *journal.Journal) error { return j.Rewind(1) },
		"Rewind to 2":     func(j *journal.Journal) error { return j.Rewind(2) },
		"Cut to none":     func(j *journal.Journal) error { return j.Cut(0) },
		"Cut to one":      func(j *journal.Journal) error { return j.Cut(1) },
		"Cut to one less": func(j *journal.Journal) error { return j.Cut(2) },
	} {
		for n := 0; ; n++ {
			d := begin.d.Clone()
			j := begin.on(t, d)
			arm(t, d, n)
			err := do(j)
			if err == nil {
				break
			}
			failsForGood(t, j, d, api.ErrDisk)
			d.Restart([]int{1, 2, 0, 1})
			left := image(t, d)
			failsForGood(t, j, d, api.ErrDisk)
			if !same(left, image(t, d)) || err != error(api.ErrDisk) {
				t.Fatalf("%s with %d writes: %v, or it is written behind that", name, n, err)
			}
		}
	}
}

// What a journal tells behind an error of the device: those that waited wait, for the region was not synced; behind Rewind and Cut the records are those that these leave.
func TestJN2JN3BehindErrors(t *testing.T) {
	a := journal.Area{Region: 1, First: 1, Sectors: 6}
	row := [][]byte{mixed(1, 50), mixed(2, 70), []byte("a")}
	more := [][]byte{[]byte("b"), mixed(3, 90)}
	begin := opens(t, made(t, 2, 8), a, 1)
	begin.lays(t, row...)
	fails := func(l *log, n int, do func(j *journal.Journal) error) {
		t.Helper()
		arm(t, l.d, n)
		if err := do(l.j); err != error(api.ErrDisk) {
			t.Fatal(err)
		}
		l.tells(t)
	}
	for n := range 2 {
		l := opens(t, begin.d.Clone(), a, 1)
		for _, payload := range more {
			l.append(t, payload)
		}
		fails(l, n, (*journal.Journal).Flush)

		l = opens(t, begin.d.Clone(), a, 1)
		l.append(t, []byte("w"))
		l.epoch, l.flushed, l.waiting = 9, nil, nil
		fails(l, n, func(j *journal.Journal) error { return j.Rewind(9) })

		l = opens(t, begin.d.Clone(), a, 1)
		l.flushed = row[:1]
		fails(l, n, func(j *journal.Journal) error { return j.Cut(1) })
	}
}

// A nil Journal: ErrArg, and 0.
func TestJN3Nil(t *testing.T) {
	var j *journal.Journal
	for _, payload := range [][]byte{nil, {1}, tooLong} {
		if err := j.Append(payload); err != error(api.ErrArg) {
			t.Errorf("Append of a nil Journal: %v", err)
		}
	}
	if err := j.Flush(); err != error(api.ErrArg) {
		t.Errorf("Flush of a nil Journal: %v", err)
	}
	for _, epoch := range epochs() {
		if err := j.Rewind(epoch); err != error(api.ErrArg) {
			t.Errorf("Rewind of a nil Journal: %v", err)
		}
	}
	for _, n := range []int{math.MinInt, -1, 0, 1, math.MaxInt} {
		if err := j.Cut(n); err != error(api.ErrArg) {
			t.Errorf("Cut of a nil Journal: %v", err)
		}
	}
	if j.Len() != 0 || j.Room() != 0 || j.Waits() != 0 || j.Epoch() != 0 {
		t.Errorf("a nil Journal: %d, %d, %d, %d", j.Len(), j.Room(), j.Waits(), j.Epoch())
	}
}

// Len, Room, Waits and Epoch of known numbers.
func TestJN3Numbers(t *testing.T) {
	d := made(t, 1, 3)
	j, _, err := journal.Open(d, journal.Area{First: 1, Sectors: 2}, 300)
	if err != nil {
		t.Fatal(err)
	}
	asks := func(size, room, waits int, epoch uint64) {
		t.Helper()
		if j.Len() != size || j.Room() != room || j.Waits() != waits || j.Epoch() != epoch {
			t.Errorf("Len %d, Room %d, Waits %d, Epoch %d, not %d, %d, %d, %d", j.Len(), j.Room(), j.Waits(), j.Epoch(), size, room, waits, epoch)
		}
	}
	asks(0, 128, 0, 300)
	for i := range 3 {
		if err := j.Append([]byte("a")); err != nil {
			t.Fatal(err)
		}
		asks(8*i+8, 120-8*i, i+1, 300)
	}
	if err := j.Flush(); err != nil {
		t.Fatal(err)
	}
	asks(24, 104, 0, 300)
	if err := j.Append(make([]byte, 97)); err != nil {
		t.Fatal(err)
	}
	asks(128, 0, 1, 300)
	if err := j.Flush(); err != nil {
		t.Fatal(err)
	}
	asks(128, 0, 0, 300)
	if err := j.Cut(2); err != nil {
		t.Fatal(err)
	}
	asks(16, 112, 0, 300)
	if err := j.Rewind(1); err != nil {
		t.Fatal(err)
	}
	asks(0, 128, 0, 1)
}

// allChoices calls with each list of n choices out of 0, 1 and 2.
func allChoices(n int, with func([]int)) {
	choices := make([]int, n)
	var fill func(i int)
	fill = func(i int) {
		if i == n {
			with(slices.Clone(choices))
			return
		}
		for c := range 3 {
			choices[i] = c
			fill(i + 1)
		}
	}
	fill(0)
}

// crashes does something to copies of a device with each number of writes, and hands on what each choice behind the crash leaves; the last ones are those where nothing failed.
func crashes(t testing.TB, begin *disk.Disk, region int, do func(d *disk.Disk) error, with func(d *disk.Disk, err error, how string)) {
	t.Helper()
	for n := 0; ; n++ {
		d := begin.Clone()
		arm(t, d, n)
		err := do(d)
		if d.Crashed() != (err == error(api.ErrDisk)) {
			t.Fatalf("with %d writes: %v, crashed %t", n, err, d.Crashed())
		}
		allChoices(len(d.Pending(region)), func(choices []int) {
			other := d.Clone()
			other.Restart(choices)
			with(other, err, fmt.Sprintf("%d writes, Restart(%v)", n, choices))
		})
		if err == nil {
			return
		}
	}
}

// begins tells whether one list is a begin of another one.
func begins(x, y [][]byte) bool { return len(x) <= len(y) && sameLists(x, y[:len(x)]) }

// followers are what is laid behind a crash: one byte, what ends at the half of a sector, at its end, and what fills the area.
func followers(l *log) [][][]byte {
	out := [][][]byte{{[]byte("n")}, {[]byte("n"), mixed(7, 90)}}
	for _, end := range []int{sector / 2, sector, 2 * sector, l.a.Sectors * sector} {
		if payload := sized(8, l.epoch, end-len(l.row())); payload != nil {
			out = append(out, [][]byte{payload})
		}
	}
	return out
}

// goesOn opens what a crash left, lays something behind and flushes it: behind a second crash that and what was told is told, and nothing else.
func goesOn(t testing.TB, d *disk.Disk, a journal.Area, epoch uint64, how string) [][]byte {
	t.Helper()
	first := opens(t, d.Clone(), a, epoch)
	for _, payloads := range followers(first) {
		l := opens(t, d.Clone(), a, epoch)
		l.lays(t, payloads...)
		l.stays(t)
		if !begins(first.flushed, l.flushed) {
			t.Fatalf("%s: %q is not behind %q", how, l.flushed, first.flushed)
		}
	}
	return first.flushed
}

// crashAreas are areas that are small enough for each choice of each sector.
func crashAreas() []journal.Area {
	return []journal.Area{{Region: 0, First: 0, Sectors: 1}, {Region: 1, First: 2, Sectors: 2}, {Region: 1, First: 3, Sectors: 3}, {Region: 0, First: 1, Sectors: 4}}
}

// crashRows are records that end within sectors, at their halves and at their ends, and lie in several.
func crashRows() [][][]byte {
	return [][][]byte{
		{[]byte("a"), []byte("b"), []byte("c")},
		{mixed(1, 26), mixed(2, 26), mixed(3, 26), mixed(4, 26), mixed(5, 26)},
		{mixed(1, 58), mixed(2, 58), mixed(3, 58)},
		{mixed(1, 58), []byte("a"), mixed(3, 51), []byte("b")},
		{[]byte("a"), mixed(1, 100), []byte("b"), mixed(2, 80)},
		{mixed(1, 150), []byte("a")},
		{make([]byte, 90), {0}, make([]byte, 70)},
		{framed(1, mixed(1, 40)), mixed(2, 8), framed(1, mixed(3, 20))},
	}
}

// starts hands on journals of the epoch 1 with each number of records flushed, and the others waiting, as far as there is room for them.
func starts(t testing.TB, with func(l *log)) {
	t.Helper()
	for _, a := range crashAreas() {
		for _, row := range crashRows() {
			for flushed := range len(row) + 1 {
				l := opens(t, noisy(t, 2, 6), a, 1)
				l.lays(t, row[:flushed]...)
				for _, payload := range row[flushed:] {
					l.append(t, payload)
				}
				with(l)
			}
		}
	}
}

// Every crash of a Flush: all that was flushed, and a begin of what waited.
func TestJN4Flush(t *testing.T) {
	starts(t, func(l *log) {
		do := func(d *disk.Disk) error { return l.on(t, d).Flush() }
		crashes(t, l.d, l.a.Region, do, func(d *disk.Disk, err error, how string) {
			got := goesOn(t, d, l.a, l.epoch, how)
			all := slices.Concat(l.flushed, l.waiting)
			if !begins(l.flushed, got) || !begins(got, all) || err == nil && !sameLists(got, all) {
				t.Fatalf("%v, Flush of %d behind %d, %s: %q", l.a, len(l.waiting), len(l.flushed), how, got)
			}
			if other := opens(t, d, l.a, l.epoch+1); len(other.flushed) != 0 {
				t.Fatalf("another epoch's records are told: %q", other.flushed)
			}
		})
	})
}

// Every crash of a Cut: a begin of the records, and at least those that it leaves.
func TestJN4Cut(t *testing.T) {
	starts(t, func(l *log) {
		if len(l.waiting) > 0 {
			return
		}
		for n := range len(l.flushed) + 1 {
			do := func(d *disk.Disk) error { return l.on(t, d).Cut(n) }
			crashes(t, l.d, l.a.Region, do, func(d *disk.Disk, err error, how string) {
				got := goesOn(t, d, l.a, l.epoch, how)
				if !begins(l.flushed[:n], got) || !begins(got, l.flushed) || err == nil && len(got) != n {
					t.Fatalf("%v, Cut(%d) of %d, %s: %q", l.a, n, len(l.flushed), how, got)
				}
			})
		}
	})
}

// Every crash of a Rewind: of the old epoch a begin, of a new one nothing.
func TestJN4Rewind(t *testing.T) {
	starts(t, func(l *log) {
		for _, epoch := range []uint64{1, 300} {
			do := func(d *disk.Disk) error { return l.on(t, d).Rewind(epoch) }
			crashes(t, l.d, l.a.Region, do, func(d *disk.Disk, err error, how string) {
				got := goesOn(t, d.Clone(), l.a, 1, how)
				if !begins(got, l.flushed) || err == nil && len(got) != 0 {
					t.Fatalf("%v, Rewind(%d) of %d, %s: %q", l.a, epoch, len(l.flushed), how, got)
				}
				if got := goesOn(t, d, l.a, epoch, how); epoch != 1 && len(got) != 0 {
					t.Fatalf("%v, Rewind(%d) of %d, %s: %q of the new epoch", l.a, epoch, len(l.flushed), how, got)
				}
			})
		}
	})
}

// Every crash of an Open that has something to write: what it would have told is told behind the restart.
func TestJN4Open(t *testing.T) {
	for _, a := range crashAreas()[:3] {
		for _, row := range crashRows() {
			for n := range min(len(row), 3) {
				for _, tail := range tails(1) {
					b := append(rowOf(1, row[:n]), tail...)
					begin := noisy(t, 2, 6)
					fill(t, begin, a, b[:min(len(b), a.Sectors*sector)])
					want, _ := scan(1, bytesOf(t, begin, a))
					do := func(d *disk.Disk) error { _, _, err := journal.Open(d, a, 1); return err }
					crashes(t, begin, a.Region, do, func(d *disk.Disk, _ error, how string) {
						if got := goesOn(t, d, a, 1, how); !sameLists(got, want) {
							t.Fatalf("%v, Open of %d records, %s: %q, not %q", a, n, how, got, want)
						}
					})
				}
			}
		}
	}
}

// A crash of a Flush, one of the Open behind it, and one of the next Flush: what is told at each stays, and what waited is a begin.
func TestJN4ThreeCrashes(t *testing.T) {
	a := journal.Area{Region: 1, First: 1, Sectors: 3}
	for _, row := range crashRows() {
		for flushed := range 2 {
			l := opens(t, noisy(t, 2, 5), a, 1)
			l.lays(t, row[:flushed]...)
			for _, payload := range row[flushed:] {
				l.append(t, payload)
			}
			flush := func(d *disk.Disk) error { return l.on(t, d).Flush() }
			crashes(t, l.d, 1, flush, func(d *disk.Disk, _ error, how string) {
				told, _ := scan(1, bytesOf(t, d, a))
				open := func(d *disk.Disk) error { _, _, err := journal.Open(d, a, 1); return err }
				crashes(t, d, 1, open, func(d *disk.Disk, _ error, then string) {
					again := opens(t, d, a, 1)
					if !sameLists(again.flushed, told) {
						t.Fatalf("%s; %s: %q, not %q", how, then, again.flushed, told)
					}
					again.append(t, mixed(9, 58))
					again.append(t, []byte("n"))
					flushAgain := func(d *disk.Disk) error { return again.on(t, d).Flush() }
					crashes(t, d, 1, flushAgain, func(d *disk.Disk, err error, last string) {
						all := slices.Concat(told, again.waiting)
						_, got, openErr := journal.Open(d, a, 1)
						if openErr != nil || !begins(told, got) || !begins(got, all) || err == nil && !sameLists(got, all) {
							t.Fatalf("%s; %s; %s: %q, %v", how, then, last, got, openErr)
						}
					})
				})
			})
		}
	}
}

// What waits and was not flushed is not told, whatever is kept.
func TestJN4Waiting(t *testing.T) {
	starts(t, func(l *log) {
		for choice := range 3 {
			d := l.d.Clone()
			l.on(t, d)
			d.Restart(slices.Repeat([]int{choice}, 10))
			if other := opens(t, d, l.a, 1); !sameLists(other.flushed, l.flushed) {
				t.Fatalf("%q, not %q", other.flushed, l.flushed)
			}
		}
	})
}

// An old record of the same epoch, that stands where the next sector begins, is not told behind one that fills the sector ahead of it.
func TestJN4NothingFromBefore(t *testing.T) {
	a := journal.Area{Region: 1, First: 2, Sectors: 3}
	l := opens(t, made(t, 2, 6), a, 1)
	for i := range 3 {
		l.append(t, mixed(i, 58))
	}
	arm(t, l.d, 2)
	if err := l.j.Flush(); err != error(api.ErrDisk) {
		t.Fatal(err)
	}
	l.d.Restart([]int{0, 1, 1})
	l = opens(t, l.d, a, 1)
	l.lays(t, mixed(9, 58))
	if _, got, err := journal.Open(l.d, a, 1); !sameLists(got, [][]byte{mixed(9, 58)}) || err != nil {
		t.Fatalf("Open: %q, %v", got, err)
	}
}

// Journals beside each other, in one region and in others, leave each other alone.
func TestJN4Apart(t *testing.T) {
	d := made(t, 2, 9)
	var all []*log
	for i, a := range []journal.Area{{Region: 0, First: 0, Sectors: 2}, {Region: 0, First: 2, Sectors: 1}, {Region: 0, First: 3, Sectors: 6}, {Region: 1, First: 0, Sectors: 4}, {Region: 1, First: 4, Sectors: 5}} {
		j, _, err := journal.Open(d, a, uint64(i))
		if err != nil {
			t.Fatal(err)
		}
		all = append(all, &log{d: d, a: a, epoch: uint64(i), j: j})
	}
	for round := range 12 {
		for i, l := range all {
			l.append(t, mixed(round*10+i, 1+round*5))
		}
		for i, l := range all {
			if (round+i)%4 == 3 {
				l.rewind(t, l.epoch)
			}
			if (round+i)%3 != 0 {
				l.flush(t)
			}
		}
		for _, l := range all {
			l.stays(t)
		}
	}
}

// player is a journal on a device that may crash at any write, as steps tell it.
type player struct {
	t     testing.TB
	l     *log
	steps []byte
	tag   int
	// what Open tells behind the next restart is a begin of could, and at least the first must of it
	could [][]byte
	must  int
}

// next is a number below n, of the steps.
func (p *player) next(n int) int {
	if len(p.steps) == 0 {
		return 0
	}
	c := p.steps[0]
	p.steps = p.steps[1:]
	return int(c) % n
}

// settles notes what may be told behind the next restart.
func (p *player) settles(could [][]byte, must int) { p.could, p.must = slices.Clone(could), must }

// appends lays a payload behind.
func (p *player) appends() {
	p.tag++
	payload := mixed(p.tag, 1+p.next(90))
	if p.next(3) == 0 {
		if full := sized(p.tag, p.l.epoch, sector-len(p.l.row())%sector); full != nil {
			payload = full
		}
	}
	p.l.append(p.t, payload)
}

// fails tells whether an error is the device's, in which case it must be answered for good.
func (p *player) fails(err error) bool {
	p.t.Helper()
	if err == nil {
		return false
	}
	if err != error(api.ErrDisk) || !p.l.d.Crashed() {
		p.t.Fatalf("%v, crashed %t", err, p.l.d.Crashed())
	}
	failsForGood(p.t, p.l.j, p.l.d, err)
	return true
}

// flushes makes all safe, or crashes.
func (p *player) flushes() bool {
	all := slices.Concat(p.l.flushed, p.l.waiting)
	if p.fails(p.l.j.Flush()) {
		p.settles(all, len(p.l.flushed))
		return true
	}
	p.l.flushed, p.l.waiting = all, nil
	return false
}

// rewinds begins anew, or crashes.
func (p *player) rewinds() bool {
	epoch := p.l.epoch + uint64(p.next(2))*127
	old := p.l.flushed
	if p.fails(p.l.j.Rewind(epoch)) {
		p.settles(old, 0)
		if p.l.epoch != epoch && p.next(2) == 0 {
			p.l.epoch = epoch
			p.settles(nil, 0)
		}
		return true
	}
	p.l.epoch, p.l.flushed, p.l.waiting = epoch, nil, nil
	return false
}

// cuts leaves some records, or crashes.
func (p *player) cuts() bool {
	if len(p.l.waiting) > 0 {
		if err := p.l.j.Cut(0); err != error(api.ErrArg) {
			p.t.Fatalf("Cut while one waits: %v", err)
		}
		return false
	}
	n := p.next(len(p.l.flushed) + 1)
	if p.fails(p.l.j.Cut(n)) {
		p.settles(p.l.flushed, n)
		return true
	}
	p.l.flushed = slices.Clone(p.l.flushed[:n])
	return false
}

// restarts starts the device anew, with what the steps choose, and opens the journal, over and over till that goes well.
func (p *player) restarts() {
	for {
		choices := make([]int, p.next(8))
		for i := range choices {
			choices[i] = p.next(3)
		}
		p.l.d.Restart(choices)
		row, _ := scan(p.l.epoch, bytesOf(p.t, p.l.d, p.l.a))
		if !begins(row, p.could) || len(row) < p.must {
			p.t.Fatalf("behind a restart: %q, not from %d of %q", row, p.must, p.could)
		}
		p.settles(row, len(row))
		if len(p.steps) > 0 && p.next(3) == 0 {
			arm(p.t, p.l.d, p.next(4))
			if _, _, err := journal.Open(p.l.d, p.l.a, p.l.epoch); err != nil {
				if err != error(api.ErrDisk) || !p.l.d.Crashed() {
					p.t.Fatal(err)
				}
				continue
			}
			arm(p.t, p.l.d, unarmed)
		}
		p.l = opens(p.t, p.l.d, p.l.a, p.l.epoch)
		if !sameLists(p.l.flushed, row) {
			p.t.Fatalf("Open: %q, not %q", p.l.flushed, row)
		}
		return
	}
}

// play does what steps tell.
func play(t testing.TB, steps []byte) {
	t.Helper()
	p := &player{t: t, steps: steps}
	a := journal.Area{Region: p.next(2), First: p.next(3), Sectors: 1 + p.next(6)}
	d := noisy(t, 2, 9)
	fill(t, d, a, mixed(p.next(200), p.next(200)))
	p.l = opens(t, d, a, uint64(p.next(130)))
	for len(p.steps) > 0 {
		crashed := false
		switch p.next(10) {
		case 0, 1, 2, 3:
			p.appends()
		case 4, 5:
			crashed = p.flushes()
		case 6:
			crashed = p.rewinds()
		case 7:
			crashed = p.cuts()
		case 8:
			arm(t, p.l.d, p.next(8))
		case 9:
			p.settles(p.l.flushed, len(p.l.flushed))
			p.restarts()
		}
		if crashed {
			p.restarts()
		}
		p.l.tells(t)
	}
}

// Long runs of steps and crashes that chance chooses.
func TestJN4LongRuns(t *testing.T) {
	random := rand.New(rand.NewSource(11))
	for range 300 {
		steps := make([]byte, 400)
		random.Read(steps)
		play(t, steps)
	}
}

// The bytes that are handed in stay as they were, with what stands behind them, and the journal keeps none of them.
func TestP7ArgumentsStay(t *testing.T) {
	for _, n := range []int{0, 1, 26, 58, 64, 200, 450, 506, 507, 600} {
		d := made(t, 1, 8)
		a := journal.Area{Sectors: 8}
		j, _, err := journal.Open(d, a, 1)
		if err != nil {
			t.Fatal(err)
		}
		room := mixed(1, 1000)
		before := slices.Clone(room)
		err = j.Append(room[:n])
		if !bytes.Equal(room, before) {
			t.Fatalf("Append of %d bytes changes them", n)
		}
		if err != nil {
			continue
		}
		clear(room)
		if err := j.Flush(); err != nil {
			t.Fatal(err)
		}
		if _, got, err := journal.Open(d, a, 1); !sameLists(got, [][]byte{before[:n]}) || err != nil {
			t.Fatalf("Append keeps the bytes that it was given: %v", err)
		}
	}
}

// The bytes that Open gives can be changed, with their spare room, without changing the journal, the device or one another.
func TestP7AnswersAreNew(t *testing.T) {
	a := journal.Area{Region: 1, First: 1, Sectors: 7}
	for _, row := range payloads() {
		begin := opens(t, made(t, 2, 9), a, 1)
		begin.lays(t, row...)
		want := begin.flushed
		j, got, err := journal.Open(begin.d, a, 1)
		if err != nil {
			t.Fatal(err)
		}
		for i := range got {
			whole := got[i][:cap(got[i])]
			for k := range whole {
				whole[k] ^= 255
			}
			for k := range want {
				if k > i && !bytes.Equal(got[k], want[k]) {
					t.Fatalf("the payloads %d and %d share bytes", i, k)
				}
			}
		}
		clear(got[:cap(got)])
		l := &log{d: begin.d, a: a, epoch: 1, flushed: want, j: j}
		l.tells(t)
		l.lays(t, []byte("more"))
		l.stays(t)
		l.cut(t, len(want)/2)
		l.lays(t, []byte("and more"))
		l.stays(t)
	}
}

// What is told hangs on what was done to the journal alone: the same steps, the same answers, whatever other journals and devices there are.
func TestP7Alone(t *testing.T) {
	a := journal.Area{First: 1, Sectors: 7}
	x, y := opens(t, made(t, 1, 9), a, 1), opens(t, made(t, 1, 9), a, 1)
	for i := range 30 {
		payload := mixed(i, 1+i)
		x.append(t, payload)
		opens(t, made(t, 1, 9), a, 1).lays(t, []byte("other"))
		y.append(t, payload)
		if i%3 == 0 {
			x.flush(t)
			y.flush(t)
		}
		if i%13 == 12 {
			x.rewind(t, uint64(i))
			y.rewind(t, uint64(i))
		}
		if !same(image(t, x.d), image(t, y.d)) || x.j.Len() != y.j.Len() || x.j.Waits() != y.j.Waits() {
			t.Fatal("the same steps, other answers")
		}
	}
}

// FuzzJournal does any steps, and crashes on the way.
func FuzzJournal(f *testing.F) {
	f.Add([]byte{0, 0, 2, 0, 0, 1, 0, 57, 1, 0, 57, 1, 8, 1, 4, 3, 0, 1, 1, 1, 0, 57, 1, 4, 9, 0})
	f.Add([]byte{1, 2, 5, 9, 100, 1, 0, 80, 1, 4, 0, 80, 0, 4, 7, 1, 0, 9, 1, 4, 6, 1, 0, 5, 1, 4, 9})
	f.Add([]byte{1, 0, 0, 0, 0, 127, 8, 0, 0, 3, 1, 4, 1, 2, 0, 9, 8, 1, 6, 1, 1, 2, 0, 0})
	f.Fuzz(func(t *testing.T, steps []byte) { play(t, steps[:min(len(steps), 2000)]) })
}
