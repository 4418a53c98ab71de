package disk_test

import (
	"bytes"
	"fmt"
	"math"
	"math/rand"
	"slices"
	"strings"
	"testing"

	"barbican/api"
	"barbican/disk"
)

const half = api.SectorSize / 2

// noughts is what a sector holds at first.
var noughts = strings.Repeat("\x00", api.SectorSize)

// full is a whole sector's bytes, of which no two are the same and none is 0.
func full(tag int) []byte {
	b := make([]byte, api.SectorSize)
	for i := range b {
		b[i] = byte(1 + (tag*73+i)%255)
	}
	return b
}

// padded is bytes with noughts behind them.
func padded(b []byte) string { return string(b) + noughts[len(b):] }

// torn is the first half of what was written, and the second half of what was safe.
func torn(written, safe string) string { return written[:half] + safe[half:] }

// cell is a sector by the words: what is safe, and what was written last, if it is pending.
type cell struct {
	safe, last string
	pending    bool
}

// reads is what it reads as.
func (c cell) reads() string {
	if c.pending {
		return c.last
	}
	return c.safe
}

// model is a device by the words of the chapter.
type model struct {
	cells   [][]cell
	crashed bool
	armed   bool
	left    int
}

// fresh is a device at first.
func fresh(regions, sectors int) *model {
	m := &model{cells: make([][]cell, regions)}
	for r := range m.cells {
		m.cells[r] = slices.Repeat([]cell{{safe: noughts}}, sectors)
	}
	return m
}

// copied is a model of its own with the same.
func (m *model) copied() *model {
	out := *m
	out.cells = nil
	for _, c := range m.cells {
		out.cells = append(out.cells, slices.Clone(c))
	}
	return &out
}

// find is a sector, or nil if there is none.
func (m *model) find(region, sector int) *cell {
	for r := range m.cells {
		for s := range m.cells[r] {
			if r == region && s == sector {
				return &m.cells[r][s]
			}
		}
	}
	return nil
}

// write is DK2.
func (m *model) write(region, sector int, b []byte) error {
	c := m.find(region, sector)
	switch {
	case c == nil:
		return api.ErrArg
	case len(b) > api.SectorSize:
		return api.ErrLong
	case m.crashed:
		return api.ErrDisk
	}
	c.last, c.pending = padded(b), true
	if m.armed && m.left == 0 {
		m.crashed = true
		return api.ErrDisk
	}
	m.left--
	return nil
}

// sync is DK2.
func (m *model) sync(region int) error {
	if m.find(region, 0) == nil {
		return api.ErrArg
	}
	if m.crashed {
		return api.ErrDisk
	}
	for s, c := range m.cells[region] {
		m.cells[region][s] = cell{safe: c.reads()}
	}
	return nil
}

// arm is DK3.
func (m *model) arm(n int) error {
	if n < 0 {
		return api.ErrArg
	}
	m.armed, m.left = true, n
	return nil
}

// restart is DK3.
func (m *model) restart(choices []int) {
	for r := range m.cells {
		for s, c := range m.cells[r] {
			if !c.pending {
				continue
			}
			choice := 0
			if len(choices) > 0 {
				choice, choices = choices[0], choices[1:]
			}
			becomes := map[int]string{1: c.last, 2: torn(c.last, c.safe)}[choice]
			if becomes == "" {
				becomes = c.safe
			}
			m.cells[r][s] = cell{safe: becomes}
		}
	}
	m.crashed, m.armed = false, false
}

// pending is DK3.
func (m *model) pending(region int) []int {
	var out []int
	if m.find(region, 0) == nil {
		return out
	}
	for s, c := range m.cells[region] {
		if c.pending {
			out = append(out, s)
		}
	}
	return out
}

// step is a call that may change a device.
type step struct {
	call           string
	region, sector int // the region or the number of Sync and Arm is told by region
	b              []byte
	choices        []int
}

// String tells a step.
func (s step) String() string {
	switch s.call {
	case "Write":
		return fmt.Sprintf("Write(%d, %d, %d bytes)", s.region, s.sector, len(s.b))
	case "Restart":
		return fmt.Sprintf("Restart(%v)", s.choices)
	}
	return fmt.Sprintf("%s(%d)", s.call, s.region)
}

// wr, sy, ar and re are steps.
func wr(region, sector int, b []byte) step {
	return step{call: "Write", region: region, sector: sector, b: b}
}
func sy(region int) step      { return step{call: "Sync", region: region} }
func ar(n int) step           { return step{call: "Arm", region: n} }
func re(choices ...int) step  { return step{call: "Restart", choices: choices} }
func some(tag, n int) []byte  { return full(tag)[:n] }
func word(text string) []byte { return []byte(text) }

// do does a step to a device.
func do(d *disk.Disk, s step) error {
	switch s.call {
	case "Write":
		return d.Write(s.region, s.sector, s.b)
	case "Sync":
		return d.Sync(s.region)
	case "Arm":
		return d.Arm(s.region)
	}
	d.Restart(s.choices)
	return nil
}

// by does a step by the words.
func (m *model) by(s step) error {
	switch s.call {
	case "Write":
		return m.write(s.region, s.sector, s.b)
	case "Sync":
		return m.sync(s.region)
	case "Arm":
		return m.arm(s.region)
	}
	m.restart(s.choices)
	return nil
}

// made is a device.
func made(t testing.TB, regions, sectors int) *disk.Disk {
	t.Helper()
	d, err := disk.New(regions, sectors)
	if d == nil || err != nil {
		t.Fatalf("New(%d, %d): %v, %v", regions, sectors, d, err)
	}
	return d
}

// does does steps, each of which must go well.
func does(t testing.TB, d *disk.Disk, steps ...step) {
	t.Helper()
	for i, s := range steps {
		if err := do(d, s); err != nil {
			t.Fatalf("%v: %v", steps[:i+1], err)
		}
	}
}

// reads asks for what a sector holds.
func reads(t testing.TB, d *disk.Disk, region, sector int, want string) {
	t.Helper()
	if b, err := d.Read(region, sector); string(b) != want || err != nil {
		t.Fatalf("Read(%d, %d): %q, %v, not %q", region, sector, b, err, want)
	}
}

// pends asks for what is pending in a region.
func pends(t testing.TB, d *disk.Disk, region int, want ...int) {
	t.Helper()
	if got := d.Pending(region); !slices.Equal(got, want) {
		t.Fatalf("Pending(%d): %v, not %v", region, got, want)
	}
}

// tells asks a device for all that it tells, without a change.
func tells(t testing.TB, d *disk.Disk, m *model, how any) {
	t.Helper()
	if r, s := d.Size(); r != len(m.cells) || s != len(m.cells[0]) {
		t.Fatalf("%v: Size: %d, %d, not %d, %d", how, r, s, len(m.cells), len(m.cells[0]))
	}
	if got := d.Crashed(); got != m.crashed {
		t.Fatalf("%v: Crashed: %t", how, got)
	}
	for r := -1; r <= len(m.cells); r++ {
		if got, want := d.Pending(r), m.pending(r); !slices.Equal(got, want) {
			t.Fatalf("%v: Pending(%d): %v, not %v", how, r, got, want)
		}
	}
	for r := range m.cells {
		for s, c := range m.cells[r] {
			b, err := d.Read(r, s)
			if m.crashed {
				if b != nil || err != error(api.ErrDisk) {
					t.Fatalf("%v: Read(%d, %d): %q, %v, though it has crashed", how, r, s, b, err)
				}
			} else if string(b) != c.reads() || err != nil {
				t.Fatalf("%v: Read(%d, %d): %q, %v, not %q", how, r, s, b, err, c.reads())
			}
		}
	}
}

// holds asks a device for all that it tells and for all that it will tell: clones of it are started anew in each way, and written to till they crash.
func holds(t testing.TB, d *disk.Disk, m *model, how any) {
	t.Helper()
	tells(t, d, m, how)
	for choice := range 3 {
		choices := slices.Repeat([]int{choice}, len(m.cells)*len(m.cells[0]))
		other, want := d.Clone(), m.copied()
		other.Restart(choices)
		want.restart(choices)
		tells(t, other, want, how)
	}
	other, want := d.Clone(), m.copied()
	for i := range 4 {
		if got, asked := other.Write(0, 0, nil), want.write(0, 0, nil); got != asked {
			t.Fatalf("%v: write %d behind it: %v, not %v", how, i, got, asked)
		}
	}
}

// follows does steps to a device and by the words, and holds them against each other: behind each step, if often.
func follows(t testing.TB, regions, sectors int, steps []step, often bool) {
	t.Helper()
	d, m := made(t, regions, sectors), fresh(regions, sectors)
	for i, s := range steps {
		if got, want := do(d, s), m.by(s); got != want {
			t.Fatalf("%v: %v, not %v", steps[:i+1], got, want)
		}
		if often {
			holds(t, d, m, steps[:i+1])
		}
	}
	holds(t, d, m, steps)
}

// ends are numbers far off and at the ends of what an int holds.
func ends() []int {
	return []int{math.MinInt, math.MinInt32, -64, -2, -1, math.MaxInt32, math.MaxInt32 + 1, 1 << 32, math.MaxInt}
}

func TestDK1New(t *testing.T) {
	regions := append(ends(), 0, 1, 2, api.MaxLabels-1, api.MaxLabels, api.MaxLabels+1, 1<<32+1)
	sectors := append(ends(), 0, 1, 2, api.MaxSectors-1, api.MaxSectors, api.MaxSectors+1, 1<<32+1)
	for _, r := range regions {
		for _, s := range sectors {
			d, err := disk.New(r, s)
			if r < 1 || r > 16 || s < 1 || s > 16384 {
				if d != nil || err != error(api.ErrArg) {
					t.Errorf("New(%d, %d): %v, %v", r, s, d, err)
				}
				continue
			}
			if d == nil || err != nil {
				t.Fatalf("New(%d, %d): %v, %v", r, s, d, err)
			}
			if gotR, gotS := d.Size(); gotR != r || gotS != s {
				t.Errorf("New(%d, %d): Size: %d, %d", r, s, gotR, gotS)
			}
			if d.Crashed() {
				t.Errorf("New(%d, %d) has crashed", r, s)
			}
		}
	}
}

func TestDK1AtFirst(t *testing.T) {
	for _, r := range []int{1, 2, api.MaxLabels} {
		for _, s := range []int{1, 2, 5} {
			holds(t, made(t, r, s), fresh(r, s), "New")
		}
	}
}

// The greatest device has all its sectors, each of its own, and not one more.
func TestDK1AllSectors(t *testing.T) {
	d := made(t, api.MaxLabels, api.MaxSectors)
	all := make([]int, api.MaxSectors)
	for r := range api.MaxLabels {
		for s := range api.MaxSectors {
			all[s] = s
			reads(t, d, r, s, noughts)
			does(t, d, wr(r, s, fmt.Appendf(nil, "%d %d", r, s)))
		}
	}
	for r := range api.MaxLabels {
		pends(t, d, r, all...)
		if r%2 == 0 {
			does(t, d, sy(r))
			pends(t, d, r)
		}
	}
	d.Restart(nil)
	for r := range api.MaxLabels {
		for s := range api.MaxSectors {
			want := noughts
			if r%2 == 0 {
				want = padded(fmt.Appendf(nil, "%d %d", r, s))
			}
			reads(t, d, r, s, want)
		}
	}
}

func TestDK1Size(t *testing.T) {
	d := made(t, 3, 7)
	does(t, d, wr(2, 6, word("a")), sy(2), wr(0, 0, word("b")), ar(0))
	if err := d.Write(1, 1, nil); err != error(api.ErrDisk) {
		t.Fatal(err)
	}
	if r, s := d.Size(); r != 3 || s != 7 {
		t.Errorf("Size of what has crashed: %d, %d", r, s)
	}
	d.Restart(nil)
	if r, s := d.Size(); r != 3 || s != 7 {
		t.Errorf("Size of what was started anew: %d, %d", r, s)
	}
}

func TestDK2WriteLengths(t *testing.T) {
	for n := range api.SectorSize + 1 {
		for before := range api.SectorSize + 1 {
			d := made(t, 1, 2)
			does(t, d, wr(0, 1, some(1, before)), wr(0, 1, some(2, n)))
			reads(t, d, 0, 1, padded(some(2, n)))
			reads(t, d, 0, 0, noughts)
			pends(t, d, 0, 1)
		}
	}
}

// Noughts stand behind what is shorter, also where something longer was safe.
func TestDK2WriteShorter(t *testing.T) {
	for _, n := range []int{0, 1, half - 1, half, half + 1, api.SectorSize - 1} {
		for choice, want := range map[int]string{
			0: string(full(1)),
			1: padded(some(2, n)),
			2: torn(padded(some(2, n)), string(full(1))),
		} {
			d := made(t, 2, 3)
			does(t, d, wr(1, 2, full(1)), sy(1), wr(1, 2, some(2, n)))
			reads(t, d, 1, 2, padded(some(2, n)))
			d.Restart([]int{choice})
			reads(t, d, 1, 2, want)
		}
	}
}

func TestDK2WriteErrors(t *testing.T) {
	type place struct{ region, sector int }
	wrong := []place{{-1, 0}, {0, -1}, {3, 0}, {0, 5}, {3, 5}, {2, 5}, {3, 4}, {-1, -1}, {4, 1}, {1 << 32, 1}, {1, 1 << 32}, {5, 2}}
	for _, n := range ends() {
		wrong = append(wrong, place{n, 0}, place{0, n}, place{n, n})
	}
	right := []place{{0, 0}, {2, 4}, {1, 3}}
	for _, crashed := range []bool{false, true} {
		d, m := made(t, 3, 5), fresh(3, 5)
		steps := []step{wr(0, 0, full(1)), wr(2, 4, full(2)), sy(0), wr(0, 1, full(3)), ar(2)}
		if crashed {
			steps = append(steps, wr(1, 1, full(4)), wr(0, 1, full(5)), wr(2, 3, full(6)))
		}
		for _, s := range steps {
			if got, want := do(d, s), m.by(s); got != want {
				t.Fatalf("%v: %v, not %v", s, got, want)
			}
		}
		check := func(p place, n int, want api.Errno) {
			t.Helper()
			if err := d.Write(p.region, p.sector, bytes.Repeat([]byte{7}, n)); err != error(want) {
				t.Errorf("crashed %t: Write(%d, %d, %d bytes): %v, not %v", crashed, p.region, p.sector, n, err, want)
			}
			holds(t, d, m, p)
		}
		for _, n := range []int{0, 1, 64, 65, 66, 1000} {
			for _, p := range wrong {
				check(p, n, api.ErrArg)
			}
			for _, p := range right {
				if n > 64 {
					check(p, n, api.ErrLong)
				} else if crashed {
					check(p, n, api.ErrDisk)
				}
			}
		}
	}
}

func TestDK2ReadErrors(t *testing.T) {
	for _, crashed := range []bool{false, true} {
		d, m := made(t, 2, 3), fresh(2, 3)
		steps := []step{wr(0, 0, full(1)), sy(0), wr(1, 2, full(2)), ar(0)}
		if crashed {
			steps = append(steps, wr(1, 1, full(3)))
		}
		for _, s := range steps {
			if got, want := do(d, s), m.by(s); got != want {
				t.Fatalf("%v: %v, not %v", s, got, want)
			}
		}
		for _, p := range [][2]int{{-1, 0}, {0, -1}, {2, 0}, {0, 3}, {2, 2}, {1, 3}, {2, 3}, {math.MinInt, 0}, {0, math.MinInt}, {math.MaxInt, 0}, {0, math.MaxInt}, {1 << 32, 0}, {0, 1 << 32}} {
			if b, err := d.Read(p[0], p[1]); b != nil || err != error(api.ErrArg) {
				t.Errorf("crashed %t: Read(%d, %d): %q, %v", crashed, p[0], p[1], b, err)
			}
		}
		holds(t, d, m, crashed)
	}
}

func TestDK2SyncErrors(t *testing.T) {
	for _, crashed := range []bool{false, true} {
		d, m := made(t, 2, 3), fresh(2, 3)
		steps := []step{wr(0, 0, full(1)), wr(1, 2, full(2)), ar(0)}
		if crashed {
			steps = append(steps, wr(1, 1, full(3)))
		}
		for _, s := range steps {
			if got, want := do(d, s), m.by(s); got != want {
				t.Fatalf("%v: %v, not %v", s, got, want)
			}
		}
		for _, region := range append(ends(), 2, 3) {
			if err := d.Sync(region); err != error(api.ErrArg) {
				t.Errorf("crashed %t: Sync(%d): %v", crashed, region, err)
			}
			holds(t, d, m, region)
		}
		if !crashed {
			continue
		}
		for region := range 2 {
			if err := d.Sync(region); err != error(api.ErrDisk) {
				t.Errorf("Sync(%d) of what has crashed: %v", region, err)
			}
			holds(t, d, m, region)
		}
	}
}

func TestDK2Sync(t *testing.T) {
	d := made(t, 3, 4)
	does(t, d, wr(0, 3, word("a")), wr(1, 2, word("b")), wr(1, 0, word("c")), wr(2, 1, word("d")), sy(1))
	pends(t, d, 0, 3)
	pends(t, d, 1)
	pends(t, d, 2, 1)
	reads(t, d, 1, 2, padded(word("b")))
	does(t, d, wr(1, 2, word("e")), sy(0), sy(2), sy(2))
	pends(t, d, 1, 2)
	reads(t, d, 1, 2, padded(word("e")))
	d.Restart(nil)
	reads(t, d, 0, 3, padded(word("a")))
	reads(t, d, 1, 0, padded(word("c")))
	reads(t, d, 1, 2, padded(word("b")))
	reads(t, d, 2, 1, padded(word("d")))
}

// What was written twice, synced between or not, is what was written last, and its safe one is what was synced.
func TestDK2WrittenTwice(t *testing.T) {
	for _, synced := range []bool{false, true} {
		for choice := range 3 {
			d := made(t, 1, 1)
			does(t, d, wr(0, 0, full(1)))
			safe := noughts
			if synced {
				does(t, d, sy(0))
				safe = string(full(1))
			}
			does(t, d, wr(0, 0, full(2)))
			pends(t, d, 0, 0)
			reads(t, d, 0, 0, string(full(2)))
			d.Restart([]int{choice, 1, 1})
			reads(t, d, 0, 0, []string{safe, string(full(2)), torn(string(full(2)), safe)}[choice])
			pends(t, d, 0)
		}
	}
}

// A sector is pending when it is written, even if that changes none of its bytes.
func TestDK2WriteOfTheSame(t *testing.T) {
	d := made(t, 1, 2)
	does(t, d, wr(0, 0, nil))
	pends(t, d, 0, 0)
	does(t, d, wr(0, 1, full(1)), sy(0), wr(0, 1, full(1)))
	pends(t, d, 0, 1)
	does(t, d, wr(0, 0, full(2)))
	d.Restart([]int{0, 0})
	reads(t, d, 0, 0, noughts)
	reads(t, d, 0, 1, string(full(1)))
}

func TestDK2CrashingWrite(t *testing.T) {
	for choice := range 3 {
		d := made(t, 1, 3)
		does(t, d, wr(0, 1, full(1)), sy(0), ar(0))
		if err := d.Write(0, 1, some(2, 40)); err != error(api.ErrDisk) {
			t.Fatalf("the write that crashes it: %v", err)
		}
		if !d.Crashed() {
			t.Fatal("it has not crashed")
		}
		pends(t, d, 0, 1)
		if b, err := d.Read(0, 1); b != nil || err != error(api.ErrDisk) {
			t.Errorf("Read: %q, %v", b, err)
		}
		if err := d.Write(0, 2, nil); err != error(api.ErrDisk) {
			t.Errorf("Write: %v", err)
		}
		if err := d.Write(0, 1, full(3)); err != error(api.ErrDisk) {
			t.Errorf("Write of the same sector: %v", err)
		}
		if err := d.Sync(0); err != error(api.ErrDisk) {
			t.Errorf("Sync: %v", err)
		}
		pends(t, d, 0, 1)
		d.Restart([]int{choice})
		last := padded(some(2, 40))
		reads(t, d, 0, 1, []string{string(full(1)), last, torn(last, string(full(1)))}[choice])
		pends(t, d, 0)
	}
}

func TestDK3Arm(t *testing.T) {
	for _, n := range []int{0, 1, 2, 3, 7, 64, 1000} {
		d := made(t, 2, 50)
		does(t, d, wr(0, 0, nil), wr(1, 1, nil), ar(n))
		for i := range n {
			if err := d.Write(i%2, i%50, full(i)); err != nil || d.Crashed() {
				t.Fatalf("Arm(%d): write %d: %v", n, i, err)
			}
		}
		does(t, d, sy(0)) // neither a Sync nor a Read is a write
		reads(t, d, 0, 49, noughts)
		if d.Crashed() {
			t.Fatalf("Arm(%d): it has crashed ahead of the next write", n)
		}
		if err := d.Write(1, 49, full(n)); err != error(api.ErrDisk) || !d.Crashed() {
			t.Fatalf("Arm(%d): the next write: %v", n, err)
		}
		if at := d.Pending(1); !slices.Contains(at, 49) {
			t.Fatalf("Arm(%d): Pending: %v", n, at)
		}
	}
}

func TestDK3ArmFar(t *testing.T) {
	for _, n := range []int{math.MaxInt32, math.MaxInt32 + 1, 1 << 32, math.MaxInt} {
		d := made(t, 1, 1)
		does(t, d, ar(n))
		for range 1000 {
			does(t, d, wr(0, 0, full(1)))
		}
		if d.Crashed() {
			t.Errorf("Arm(%d): it has crashed", n)
		}
	}
}

func TestDK3ArmErrors(t *testing.T) {
	for _, n := range []int{-1, -2, math.MinInt32, math.MinInt} {
		d, m := made(t, 1, 2), fresh(1, 2)
		check := func(how string) {
			t.Helper()
			if err := d.Arm(n); err != error(api.ErrArg) {
				t.Errorf("%s: Arm(%d): %v", how, n, err)
			}
			holds(t, d, m, how)
		}
		check("at first")
		for _, s := range []step{ar(1), wr(0, 0, full(1)), wr(0, 1, full(2))} {
			do(d, s)
			m.by(s)
			check(s.String())
		}
	}
}

// What was armed ahead is armed no more: the new number counts from then on.
func TestDK3ArmedAnew(t *testing.T) {
	for before := range 4 {
		for done := range before + 1 {
			for after := range 4 {
				steps := []step{ar(before)}
				for i := range done {
					steps = append(steps, wr(0, i%2, full(i)))
				}
				steps = append(steps, ar(after))
				for i := range after + 2 {
					steps = append(steps, wr(0, i%2, full(9+i)))
				}
				follows(t, 1, 2, steps, true)
			}
		}
	}
}

// Armed while it is crashed, it stays crashed, and a Restart takes that off too.
func TestDK3ArmedWhenCrashed(t *testing.T) {
	for n := range 3 {
		follows(t, 1, 2, []step{ar(0), wr(0, 0, full(1)), ar(n), wr(0, 1, full(2)), sy(0), re(1), wr(0, 0, full(3)), wr(0, 1, full(4)), wr(0, 1, full(5)), sy(0)}, true)
	}
}

// A write that is refused is none of those that go well.
func TestDK3ArmCountsWrites(t *testing.T) {
	d := made(t, 1, 1)
	does(t, d, ar(1))
	for range 3 {
		if err := d.Write(0, 1, nil); err != error(api.ErrArg) {
			t.Fatal(err)
		}
		if err := d.Write(0, 0, make([]byte, 65)); err != error(api.ErrLong) {
			t.Fatal(err)
		}
	}
	does(t, d, wr(0, 0, word("a")))
	if err := d.Write(0, 1, nil); err != error(api.ErrArg) || d.Crashed() {
		t.Errorf("a wrong write when the writes are over: %v, crashed %t", err, d.Crashed())
	}
	if err := d.Write(0, 0, make([]byte, 65)); err != error(api.ErrLong) || d.Crashed() {
		t.Errorf("a long write when the writes are over: %v, crashed %t", err, d.Crashed())
	}
	if err := d.Write(0, 0, nil); err != error(api.ErrDisk) || !d.Crashed() {
		t.Errorf("the write that crashes it: %v, crashed %t", err, d.Crashed())
	}
}

func TestDK3Examples(t *testing.T) {
	for choice, want := range map[int]string{1: padded(word("new")), 0: noughts} {
		d := made(t, 1, 4)
		does(t, d, wr(0, 3, word("new")), re(choice))
		reads(t, d, 0, 3, want)
	}
}

// The choices go over the pending sectors by regions, and in them ascending, in whatever order they were written.
func TestDK3RestartOrder(t *testing.T) {
	places := [][2]int{{0, 0}, {0, 9}, {0, 10}, {1, 1}, {1, 2}, {1, 11}, {2, 0}, {3, 3}, {3, 200}}
	choices := []int{1, 0, 2, 2, 1, 0, 0, 2, 1}
	random := rand.New(rand.NewSource(8))
	for range 200 {
		d := made(t, 4, 201)
		for i, p := range places {
			does(t, d, wr(p[0], p[1], full(i)))
		}
		for r := range 4 {
			does(t, d, sy(r))
		}
		for _, i := range random.Perm(len(places)) {
			does(t, d, wr(places[i][0], places[i][1], full(100+i)))
		}
		d.Restart(choices)
		for i, p := range places {
			safe, last := string(full(i)), string(full(100+i))
			reads(t, d, p[0], p[1], []string{safe, last, torn(last, safe)}[choices[i]])
		}
	}
}

func TestDK3RestartChoices(t *testing.T) {
	for _, choices := range [][]int{
		nil, {}, {0}, {1}, {2}, {-1}, {3}, {math.MinInt}, {math.MaxInt}, {1 << 32}, {1<<32 + 1}, {1<<32 + 2}, {257}, {258},
		{1, 2}, {2, 1}, {0, 0, 1}, {0, 0, 2}, {3, 1, 1}, {-1, 2, 2}, {-2, -1, 1},
		{1, 1, 1}, {2, 2, 2}, {1, 1, 1, 1}, {0, 0, 0, 1, 1, 1}, {2, 1, 0, 2, 2, 2, 2}, {4, 5, 6}, {49, 50, 51},
	} {
		for _, crashed := range []bool{false, true} {
			steps := []step{
				wr(0, 0, full(1)), wr(0, 1, full(2)), wr(1, 1, full(3)), sy(0), sy(1),
				wr(1, 1, full(4)), wr(0, 1, full(5)),
			}
			if crashed {
				steps = append(steps, ar(0))
			}
			steps = append(steps, wr(1, 0, full(6)), re(choices...), re(1, 1, 1), wr(0, 0, full(7)), re(2), wr(0, 0, full(8)), sy(0))
			follows(t, 2, 2, steps, true)
		}
	}
}

func TestDK3RestartTears(t *testing.T) {
	d := made(t, 1, 1)
	does(t, d, wr(0, 0, bytes.Repeat([]byte("s"), 64)), sy(0), wr(0, 0, bytes.Repeat([]byte("w"), 64)), re(2))
	reads(t, d, 0, 0, strings.Repeat("w", 32)+strings.Repeat("s", 32))
	does(t, d, wr(0, 0, bytes.Repeat([]byte("x"), 33)), re(2))
	reads(t, d, 0, 0, strings.Repeat("x", 32)+strings.Repeat("s", 32))
	does(t, d, wr(0, 0, bytes.Repeat([]byte("y"), 31)), re(2))
	reads(t, d, 0, 0, strings.Repeat("y", 31)+"\x00"+strings.Repeat("s", 32))
}

// A Restart leaves it neither crashed nor armed, and what it left is safe behind the next one.
func TestDK3RestartLeaves(t *testing.T) {
	for choice := range 3 {
		d := made(t, 2, 2)
		does(t, d, ar(1), wr(0, 0, full(1)))
		if err := d.Write(1, 1, full(2)); err != error(api.ErrDisk) {
			t.Fatal(err)
		}
		d.Restart([]int{choice, choice})
		if d.Crashed() {
			t.Fatal("it is crashed")
		}
		pends(t, d, 0)
		pends(t, d, 1)
		want1 := []string{noughts, string(full(1)), torn(string(full(1)), noughts)}[choice]
		want2 := []string{noughts, string(full(2)), torn(string(full(2)), noughts)}[choice]
		for other := range 3 {
			reads(t, d, 0, 0, want1)
			reads(t, d, 1, 1, want2)
			d.Restart([]int{other, other})
		}
		for range 10 {
			does(t, d, wr(0, 0, full(3)))
		}
		does(t, d, ar(2), re())
		for range 10 {
			does(t, d, wr(1, 1, full(4)))
		}
		d.Restart(nil)
		reads(t, d, 0, 0, want1)
		reads(t, d, 1, 1, want2)
	}
}

func TestDK3Pending(t *testing.T) {
	d := made(t, 3, 300)
	for _, s := range []int{299, 0, 17, 256, 2, 10, 1, 17, 0} {
		does(t, d, wr(1, s, word("a")))
	}
	does(t, d, wr(2, 5, nil))
	pends(t, d, 0)
	pends(t, d, 1, 0, 1, 2, 10, 17, 256, 299)
	pends(t, d, 2, 5)
	for _, r := range append(ends(), 3, 4) {
		if got := d.Pending(r); len(got) != 0 {
			t.Errorf("Pending(%d): %v", r, got)
		}
	}
	does(t, d, ar(0))
	if err := d.Write(1, 3, nil); err != error(api.ErrDisk) {
		t.Fatal(err)
	}
	pends(t, d, 1, 0, 1, 2, 3, 10, 17, 256, 299)
	for _, r := range append(ends(), 3, 4) {
		if got := d.Pending(r); len(got) != 0 {
			t.Errorf("Pending(%d) of what has crashed: %v", r, got)
		}
	}
}

// A clone and its device go their own ways, whatever is done to the other one.
func TestDK3Clone(t *testing.T) {
	begins := [][]step{
		nil,
		{wr(0, 0, full(1))},
		{wr(0, 0, full(1)), sy(0)},
		{wr(0, 0, full(1)), sy(0), wr(0, 0, full(2)), wr(1, 1, full(3))},
		{wr(1, 0, full(1)), ar(0)},
		{wr(1, 0, full(1)), ar(2), wr(1, 1, full(2))},
		{wr(0, 1, full(1)), ar(0), wr(1, 0, full(2))},
		{wr(0, 1, full(1)), re(2), wr(0, 1, full(3))},
	}
	ways := [][]step{
		{wr(0, 0, full(7)), wr(1, 1, full(8))}, {sy(0)}, {sy(1)}, {ar(0)}, {ar(3)},
		{ar(0), wr(1, 0, full(7))}, {re()}, {re(1, 1, 1)}, {re(2, 2, 2)}, {wr(1, 1, full(9)), sy(1), wr(0, 0, nil), sy(0)},
	}
	for _, begin := range begins {
		for _, way := range ways {
			for _, changed := range []string{"device", "clone"} {
				d, m := made(t, 2, 2), fresh(2, 2)
				for _, s := range begin {
					if got, want := do(d, s), m.by(s); got != want {
						t.Fatalf("%v: %v, not %v", begin, got, want)
					}
				}
				stays, goes, after := d, d.Clone(), m.copied()
				if stays == goes {
					t.Fatal("a clone is the device itself")
				}
				holds(t, goes, m, begin)
				if changed == "device" {
					stays, goes = goes, stays
				}
				for _, s := range way {
					if got, want := do(goes, s), after.by(s); got != want {
						t.Fatalf("%v, %s: %v: %v, not %v", begin, changed, way, got, want)
					}
				}
				holds(t, goes, after, way)
				holds(t, stays, m, begin)
			}
		}
	}
}

// What was synced and not written since is there behind every Restart.
func TestDK4SyncedStays(t *testing.T) {
	const regions, sectors = 3, 6
	random := rand.New(rand.NewSource(4))
	for run := range 300 {
		d := made(t, regions, sectors)
		written, synced := map[[2]int]string{}, map[[2]int]string{}
		for i := range 60 {
			p := [2]int{random.Intn(regions), random.Intn(sectors)}
			switch random.Intn(6) {
			case 0:
				if d.Sync(p[0]) == nil {
					for q, b := range written {
						if q[0] == p[0] {
							synced[q] = b
							delete(written, q)
						}
					}
				}
			case 1:
				does(t, d, ar(random.Intn(5)))
			case 2:
				choices := make([]int, random.Intn(8))
				for j := range choices {
					choices[j] = random.Intn(5) - 1
				}
				d.Restart(choices)
				clear(written) // nothing is told here of what was not safe
			default:
				before := d.Crashed()
				err := d.Write(p[0], p[1], full(i))
				if before {
					continue // refused: not written
				}
				delete(synced, p)
				delete(written, p)
				if err == nil {
					written[p] = string(full(i))
				}
			}
			other := d.Clone()
			other.Restart(slices.Repeat([]int{run % 3}, regions*sectors))
			for q, want := range synced {
				reads(t, other, q[0], q[1], want)
			}
		}
	}
}

// Every crash, at each of the writes, with every choice: what was synced is whole, and what was not is one of three.
func TestDK4EveryCrash(t *testing.T) {
	const sectors = 3
	for crash := range sectors {
		for choices := range 27 {
			d := made(t, 1, sectors)
			for s := range sectors {
				does(t, d, wr(0, s, full(s)))
			}
			does(t, d, sy(0), ar(crash))
			for s := range sectors {
				err := d.Write(0, s, full(10+s))
				if (err != nil) != (s >= crash) {
					t.Fatalf("Arm(%d): write %d: %v", crash, s, err)
				}
			}
			list := []int{choices % 3, choices / 3 % 3, choices / 9}
			d.Restart(list)
			for s := range sectors {
				safe, last := string(full(s)), string(full(10+s))
				want := []string{safe, last, torn(last, safe)}[list[s]]
				if s > crash {
					want = safe
				}
				reads(t, d, 0, s, want)
			}
		}
	}
}

func TestDK4Nil(t *testing.T) {
	var d *disk.Disk
	for range 2 {
		if r, s := d.Size(); r != 0 || s != 0 {
			t.Errorf("Size: %d, %d", r, s)
		}
		for _, n := range append(ends(), 0, 1, 5) {
			if err := d.Write(n, 0, nil); err != error(api.ErrArg) {
				t.Errorf("Write(%d, 0): %v", n, err)
			}
			if err := d.Write(0, n, make([]byte, 65)); err != error(api.ErrArg) {
				t.Errorf("Write(0, %d): %v", n, err)
			}
			if b, err := d.Read(n, n); b != nil || err != error(api.ErrArg) {
				t.Errorf("Read(%d, %d): %q, %v", n, n, b, err)
			}
			if err := d.Sync(n); err != error(api.ErrArg) {
				t.Errorf("Sync(%d): %v", n, err)
			}
			if err := d.Arm(n); err != error(api.ErrArg) {
				t.Errorf("Arm(%d): %v", n, err)
			}
			if got := d.Pending(n); len(got) != 0 {
				t.Errorf("Pending(%d): %v", n, got)
			}
		}
		if d.Crashed() {
			t.Error("Crashed")
		}
		if got := d.Clone(); got != nil {
			t.Errorf("Clone: %v", got)
		}
		d.Restart(nil)
		d.Restart([]int{1, 2, 0})
	}
}

// alphabet are steps of which all short runs are done.
func alphabet() []step {
	return []step{
		wr(0, 0, full(1)), wr(0, 0, some(2, 5)), wr(0, 1, full(3)), wr(1, 0, full(4)), wr(2, 0, nil),
		sy(0), sy(1), ar(0), ar(1), re(), re(1), re(2, 1, 2), re(0, 2, 1),
	}
}

func TestDK2DK3ByTheWords(t *testing.T) {
	steps := alphabet()
	for n := range 5 {
		run := make([]step, n)
		var lay func(i int)
		lay = func(i int) {
			if i == n {
				follows(t, 2, 2, run, false)
				return
			}
			for _, s := range steps {
				run[i] = s
				lay(i + 1)
			}
		}
		lay(0)
	}
}

func TestDK2DK3LongRuns(t *testing.T) {
	random := rand.New(rand.NewSource(23))
	for run := range 60 {
		regions, sectors := 1+random.Intn(4), 1+random.Intn(6)
		steps := make([]step, 150)
		for i := range steps {
			steps[i] = anyStep(random.Intn, regions, sectors, i)
		}
		follows(t, regions, sectors, steps, run%4 == 0)
	}
}

// anyStep is a step that chance chooses: mostly right, at times just beside.
func anyStep(chance func(int) int, regions, sectors, tag int) step {
	region, sector := chance(regions), chance(sectors)
	if chance(12) == 0 {
		region = chance(regions+3) - 1
		sector = chance(sectors+3) - 1
	}
	switch chance(10) {
	case 0, 1:
		return sy(region)
	case 2:
		return ar(chance(8) - 1)
	case 3:
		choices := make([]int, chance(7))
		for i := range choices {
			choices[i] = chance(5) - 1
		}
		return re(choices...)
	}
	n := []int{64, 64, 1, 0, 31, 32, 33, 63, 65}[chance(9)]
	return wr(region, sector, append(full(tag), 1)[:n])
}

// The argument's bytes, and those behind it, stay, and the device keeps none of them.
func TestP7ArgumentsStay(t *testing.T) {
	for _, n := range []int{0, 1, 32, 63, 64, 65} {
		room := bytes.Repeat([]byte("r"), 200)
		copy(room, full(3))
		before := slices.Clone(room)
		d := made(t, 1, 2)
		err := d.Write(0, 0, room[:n])
		if !bytes.Equal(room, before) {
			t.Fatalf("Write of %d bytes changes them", n)
		}
		want := noughts
		if err == nil {
			want = padded(before[:n])
		}
		clear(room)
		reads(t, d, 0, 0, want)
		does(t, d, sy(0))
		for i := range room {
			room[i] = 'x'
		}
		reads(t, d, 0, 0, want)
	}
	choices := []int{2, 1, 0, 7, 7, 7}
	before := slices.Clone(choices)
	d := made(t, 1, 3)
	does(t, d, wr(0, 0, full(1)), wr(0, 1, full(2)), wr(0, 2, full(3)))
	d.Restart(choices[:2])
	if !slices.Equal(choices, before) {
		t.Errorf("Restart changes its choices: %v", choices)
	}
	for i := range choices {
		choices[i] = 1
	}
	reads(t, d, 0, 0, torn(string(full(1)), noughts))
	reads(t, d, 0, 1, string(full(2)))
	reads(t, d, 0, 2, noughts)
}

// spoil changes a list, with its spare room.
func spoil[T any](l []T, with T) {
	l = l[:cap(l)]
	for i := range l {
		l[i] = with
	}
}

// What is done to an answer changes neither the device nor another answer.
func TestP7AnswersAreNew(t *testing.T) {
	d, m := made(t, 2, 4), fresh(2, 4)
	for _, s := range []step{wr(0, 0, full(1)), sy(0), wr(0, 3, full(2)), wr(0, 1, full(3)), wr(0, 2, full(4)), wr(1, 1, full(5))} {
		if got, want := do(d, s), m.by(s); got != want {
			t.Fatalf("%v: %v, not %v", s, got, want)
		}
	}
	for r := range 2 {
		for s := range 4 {
			first, err := d.Read(r, s)
			second, err2 := d.Read(r, s)
			if err != nil || err2 != nil {
				t.Fatal(err, err2)
			}
			spoil(first, '!')
			if string(second) != m.cells[r][s].reads() {
				t.Errorf("two Reads of %d, %d share bytes", r, s)
			}
			spoil(second, '!')
			holds(t, d, m, "spoiled")
		}
		first, second := d.Pending(r), d.Pending(r)
		spoil(first, -7)
		if !slices.Equal(second, m.pending(r)) {
			t.Errorf("two Pendings of %d share numbers", r)
		}
		spoil(second, -7)
		holds(t, d, m, "spoiled")
	}
}

// The same steps are answered the same way, whatever other devices there are, and in whatever order a map is gone through.
func TestP7Alone(t *testing.T) {
	random := rand.New(rand.NewSource(7))
	steps := make([]step, 400)
	for i := range steps {
		steps[i] = anyStep(random.Intn, 3, 40, i)
	}
	other := made(t, 3, 40)
	does(t, other, wr(0, 0, full(99)), ar(0))
	for range 20 {
		follows(t, 3, 40, steps, false)
	}
	reads(t, other, 0, 0, string(full(99)))
	pends(t, other, 0, 0)
}

// Pending and Restart of many sectors are the same, however they came to be there.
func TestP7ManyPending(t *testing.T) {
	random := rand.New(rand.NewSource(77))
	choices := make([]int, 2*500)
	for i := range choices {
		choices[i] = random.Intn(3)
	}
	for range 5 {
		d, m := made(t, 2, 500), fresh(2, 500)
		for _, i := range random.Perm(1000) {
			does(t, d, wr(i/500, i%500, full(i)))
			m.cells[i/500][i%500] = cell{safe: noughts, last: string(full(i)), pending: true}
		}
		tells(t, d, m, "many")
		d.Restart(choices)
		m.restart(choices)
		tells(t, d, m, "many, started anew")
	}
}

func FuzzDisk(f *testing.F) {
	f.Add([]byte{1, 1})
	f.Add([]byte{3, 4, 0, 1, 2, 3, 4, 5, 6, 7, 8, 9, 10, 11, 12, 13, 14, 15})
	f.Add([]byte(strings.Repeat("a device of sectors that can crash ", 5)))
	f.Fuzz(func(t *testing.T, said []byte) {
		next := func(n int) int {
			if len(said) == 0 {
				return 0
			}
			b := said[0]
			said = said[1:]
			return int(b) % n
		}
		regions, sectors := 1+next(4), 1+next(5)
		var steps []step
		for i := 0; len(said) > 0 && i < 200; i++ {
			steps = append(steps, anyStep(next, regions, sectors, i))
		}
		follows(t, regions, sectors, steps, false)
	})
}
