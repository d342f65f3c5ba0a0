package journal_test

import (
	"errors"
	"math"
	"slices"
	"strings"
	"testing"

	"storehouse/api"
	"storehouse/disk"
	"storehouse/frame"
	"storehouse/journal"
)

// is asks that an error is a fault of this number that came from nothing; of OK, that it is none.
func is(t *testing.T, what string, err error, code api.Errno) {
	t.Helper()
	if code == api.OK {
		if err != nil {
			t.Errorf("%s: %v", what, err)
		}
		return
	}
	f, ok := err.(*api.Fault)
	if !ok || *f != (api.Fault{Code: code}) || !errors.Is(err, code) {
		t.Errorf("%s: %v, not %d", what, err, code)
	}
}

// ofDisk asks that an error is a fault of this number that came from the disk's fault of the same.
func ofDisk(t *testing.T, what string, err error, code api.Errno) {
	t.Helper()
	f, ok := err.(*api.Fault)
	if !ok || f.Code != code || f.At != 0 || !errors.Is(err, code) {
		t.Errorf("%s: %v, not %d", what, err, code)
		return
	}
	below, ok := f.Inner.(*api.Fault)
	if !ok || below == f || *below != (api.Fault{Code: code}) || !errors.Is(f.Inner, code) {
		t.Errorf("%s: %v does not come from the disk's %d", what, err, code)
	}
}

// newDisk is a disk on which no sector has bytes 0 alone, and all lasts.
func newDisk(t *testing.T, sectors int) (*disk.Power, *disk.Disk) {
	t.Helper()
	p := disk.NewPower()
	d, err := disk.New(p, sectors)
	if err != nil {
		t.Fatal(err)
	}
	for at := range sectors {
		raw(t, d, at, strings.Repeat(string(rune('A'+at%26)), 64))
	}
	return p, d
}

// raw lets whole sectors last, past any journal.
func raw(t *testing.T, d *disk.Disk, at int, text string) {
	t.Helper()
	for ; text != ""; at, text = at+1, text[64:] {
		if err := d.Write(at, text[:64]); err != nil {
			t.Fatal(err)
		}
	}
	if err := d.Flush(); err != nil {
		t.Fatal(err)
	}
}

// pack is a record that may be.
func pack(epoch, number int, payload string) string {
	s, err := frame.Pack(epoch, number, payload)
	if err != nil {
		panic(err)
	}
	return s
}

// format is a new journal.
func format(t *testing.T, d *disk.Disk, from, size int) *journal.Journal {
	t.Helper()
	j, err := journal.Format(d, from, size)
	if j == nil || err != nil {
		t.Fatal(err)
	}
	return j
}

// open is the journal that is there, and its records.
func open(t *testing.T, d *disk.Disk, from, size int) (*journal.Journal, []string) {
	t.Helper()
	j, records, err := journal.Open(d, from, size)
	if j == nil || err != nil {
		t.Fatal(err)
	}
	return j, records
}

// tells asks for all that a journal tells of itself.
func tells(t *testing.T, j *journal.Journal, left, half, epoch, many int) {
	t.Helper()
	if j.Left() != left || j.Half() != half || j.Epoch() != epoch || j.Len() != many {
		t.Errorf("Left, Half, Epoch, Len: %d, %d, %d, %d, not %d, %d, %d, %d", j.Left(), j.Half(), j.Epoch(), j.Len(), left, half, epoch, many)
	}
}

// finds asks for the records that Open tells, and that its journal tells the same of itself as j.
func finds(t *testing.T, d *disk.Disk, from, size int, j *journal.Journal, want ...string) {
	t.Helper()
	again, records := open(t, d, from, size)
	if !slices.Equal(records, want) {
		t.Errorf("Open tells %q, not %q", records, want)
	}
	tells(t, again, j.Left(), j.Half(), j.Epoch(), j.Len())
}

// text is one that wants so many sectors, as many bytes as may be.
func text(c string, sectors int) string { return strings.Repeat(c, 64*sectors-24) }

// The chapter's examples.
func TestExamples(t *testing.T) {
	p, d := newDisk(t, 40)
	j := format(t, d, 4, 10)
	tells(t, j, 4, 4, 1, 0)
	a, b := strings.Repeat("a", 40), strings.Repeat("b", 41)
	is(t, "40 bytes", j.Append(a), api.OK)
	is(t, "41 bytes", j.Append(b), api.OK)
	tells(t, j, 1, 4, 1, 2)
	is(t, "41 bytes more", j.Append(b), api.ErrFull)
	finds(t, d, 4, 10, j, a, b)
	is(t, "Reset", j.Reset("x"), api.OK)
	tells(t, j, 3, 4, 2, 1)
	finds(t, d, 4, 10, j, "x")
	p.Cut()
	ofDisk(t, "Append without power", j.Append("y"), api.ErrPower)
	p.On()
	is(t, "Append of a closed one", j.Append("y"), api.ErrClosed)
}

// P4.1: which sectors a journal may have; what may not be is told ahead of what the disk says.
func TestSectorsThatMayNotBe(t *testing.T) {
	p, d := newDisk(t, 40)
	before := d.Image()
	dead, err := disk.New(p, 40)
	is(t, "New", err, api.OK)
	dead.Kill()
	ask := func(from, size int) {
		t.Helper()
		for _, d := range []*disk.Disk{d, dead} {
			j, err := journal.Format(d, from, size)
			is(t, "Format", err, api.ErrArg)
			k, l, err := journal.Open(d, from, size)
			is(t, "Open", err, api.ErrArg)
			if j != nil || k != nil || len(l) != 0 || t.Failed() {
				t.Fatal(from, size, j, k, l)
			}
		}
	}
	for _, c := range [][2]int{
		{-1, 10}, {-4, 4}, {-40, 40}, {math.MinInt, 4}, {math.MinInt, math.MinInt}, // from is below 0
		{4, 9}, {0, 5}, {0, 39}, {0, -3}, {0, math.MaxInt}, // odd
		{0, 2}, {0, 0}, {0, -4}, {39, 0}, {0, math.MinInt}, // below 4
		{36, 10}, {0, 42}, {37, 4}, {38, 4}, {39, 4}, {40, 4}, {41, 4}, {1, 40}, {0, math.MaxInt - 1}, // past the end
		{math.MaxInt, 4}, {math.MaxInt, math.MaxInt - 1}, {math.MaxInt - 3, 4}, {4, math.MaxInt - 1},
	} {
		ask(c[0], c[1])
	}
	p.Cut()
	ask(36, 10)
	if d.Image() != before || d.Pending() != 0 {
		t.Error("something was written")
	}
}

// P4.1: all sectors that a journal may have, up to the disk's ends.
func TestSectorsThatMayBe(t *testing.T) {
	for _, c := range [][2]int{{0, 4}, {0, 6}, {0, 40}, {36, 4}, {30, 10}, {2, 38}, {17, 8}} {
		_, d := newDisk(t, 40)
		before := d.Image()
		j := format(t, d, c[0], c[1])
		half := c[1]/2 - 1
		tells(t, j, half, half, 1, 0)
		finds(t, d, c[0], c[1], j)
		is(t, "Append", j.Append(text("a", half)), api.OK)
		tells(t, j, 0, half, 1, 1)
		is(t, "Append of nothing", j.Append(""), api.ErrFull)
		finds(t, d, c[0], c[1], j, text("a", half))
		is(t, "Reset", j.Reset(text("b", half)), api.OK)
		tells(t, j, 0, half, 2, 1)
		finds(t, d, c[0], c[1], j, text("b", half))
		is(t, "Reset", j.Reset(), api.OK)
		tells(t, j, half, half, 3, 0)
		finds(t, d, c[0], c[1], j)
		after := d.Image()
		if after[:64*c[0]] != before[:64*c[0]] || after[64*(c[0]+c[1]):] != before[64*(c[0]+c[1]):] {
			t.Error(c, "sectors that are not the journal's were written")
		}
	}
}

// P4.1: Format of sectors on which a journal stood, in whichever half, of whatever epoch, leaves nothing of it, for good.
func TestFormatOverAnother(t *testing.T) {
	p, d := newDisk(t, 20)
	for _, epochs := range [][2]int{{1, 0}, {1, 1}, {9, 8}, {8, 9}, {api.MaxEpoch, 1}, {1, api.MaxEpoch}} {
		for half, epoch := range epochs {
			raw(t, d, 2+8*half, pack(epoch, 0, "journal"))
			for at := 1; at < 8; at++ { // records that a journal of the epoch 1 would have behind its head
				raw(t, d, 2+8*half+at, pack(1, at, "old"))
			}
		}
		j := format(t, d, 2, 16)
		p.Cut()
		d.Lose(nil, 64)
		p.On()
		tells(t, j, 7, 7, 1, 0)
		finds(t, d, 2, 16, j)
		if right(d.Image()[64*10:64*18]) != 0 {
			t.Error(epochs, "the second half is right")
		}
		is(t, "Append", j.Append("new"), api.OK)
		finds(t, d, 2, 16, j, "new")
	}
}

// P4.1: no journal is there.
func TestOpenOfNone(t *testing.T) {
	for what, lay := range map[string]func(d *disk.Disk){
		"nothing":             func(d *disk.Disk) { d.Replace() },
		"letters":             func(d *disk.Disk) {},
		"an epoch of 0":       func(d *disk.Disk) { raw(t, d, 4, pack(0, 0, "journal")) },
		"another number":      func(d *disk.Disk) { raw(t, d, 4, pack(1, 1, "journal")) },
		"another payload":     func(d *disk.Disk) { raw(t, d, 4, pack(1, 0, "Journal")) },
		"a longer payload":    func(d *disk.Disk) { raw(t, d, 4, pack(1, 0, "journal\x00")) },
		"a head of 2 sectors": func(d *disk.Disk) { raw(t, d, 4, pack(1, 0, "journal"+text("x", 1))) },
		"no payload":          func(d *disk.Disk) { raw(t, d, 4, pack(1, 0, "")) },
		"no mark":             func(d *disk.Disk) { raw(t, d, 4, "\x00"+pack(1, 0, "journal")[1:]) },
		"an epoch too great":  func(d *disk.Disk) { raw(t, d, 4, headByHand(api.MaxEpoch+1)) },
		"the greatest of 64":  func(d *disk.Disk) { raw(t, d, 4, headByHand(math.MaxUint64)) },
		"a head elsewhere": func(d *disk.Disk) {
			for at := range 40 {
				if at != 4 && at != 9 {
					raw(t, d, at, pack(1, 0, "journal"))
				}
			}
		},
	} {
		p, d := newDisk(t, 40)
		lay(d)
		before, acts := d.Image(), p.Acts()
		j, l, err := journal.Open(d, 4, 10)
		is(t, what, err, api.ErrBlank)
		if j != nil || len(l) != 0 || d.Image() != before || p.Acts() != acts {
			t.Error(what, j, l)
		}
	}
}

// P4.1: errors of the disk, where they come; nothing but them is told then.
func TestOpenAndFormatOfBadDisks(t *testing.T) {
	p, d := newDisk(t, 40)
	format(t, d, 4, 10)
	ask := func(code api.Errno) {
		t.Helper()
		j, err := journal.Format(d, 4, 10)
		ofDisk(t, "Format", err, code)
		k, l, err := journal.Open(d, 4, 10)
		ofDisk(t, "Open", err, code)
		if j != nil || k != nil || len(l) != 0 {
			t.Error(j, k, l)
		}
	}
	p.Cut()
	ask(api.ErrPower)
	d.Kill()
	ask(api.ErrPower)
	p.On()
	ask(api.ErrDead)
	d.Replace()
	for fuse := 0; ; fuse++ {
		p.Fuse(fuse)
		j, err := journal.Format(d, 4, 10)
		p.On()
		if err == nil {
			finds(t, d, 4, 10, j)
			break
		}
		ofDisk(t, "Format", err, api.ErrPower)
		if j != nil || fuse > 100 {
			t.Fatal(fuse, j)
		}
	}
}

// P4.1: Open is no act, and asks for no fuse; what it tells stays as it is.
func TestOpenWritesNothing(t *testing.T) {
	p, d := newDisk(t, 40)
	j := format(t, d, 4, 10)
	is(t, "Append", j.Append("a"), api.OK)
	before, acts := d.Image(), p.Acts()
	p.Fuse(0)
	finds(t, d, 4, 10, j, "a")
	if d.Image() != before || p.Acts() != acts || d.Pending() != 0 {
		t.Error("written:", p.Acts()-acts, d.Pending())
	}
}

// P4.2, P4.3: records, as long as there is room; what is refused changes nothing, and closes nothing.
func TestAppend(t *testing.T) {
	_, d := newDisk(t, 40)
	j := format(t, d, 4, 20)
	var all []string
	left := 9
	for i, c := range []struct {
		record  string
		sectors int
	}{
		{"", 1}, {"a", 1}, {strings.Repeat("b", 40), 1}, {strings.Repeat("c", 41), 2}, {strings.Repeat("d", 104), 2},
		{strings.Repeat("e", 105), 3}, {"\x01\x00\xff", 1}, {strings.Repeat("f", 41), 2}, {"g", 1}, {"", 1},
	} {
		want := api.OK
		if c.sectors > left {
			want = api.ErrFull
		} else {
			left -= c.sectors
			all = append(all, c.record)
		}
		before := d.Image()
		is(t, "Append", j.Append(c.record), want)
		is(t, "Append of too much", j.Append(strings.Repeat("x", api.MaxRecord+1)), api.ErrArg)
		tells(t, j, left, 9, 1, len(all))
		finds(t, d, 4, 20, j, all...)
		if want != api.OK && d.Image() != before || d.Pending() != 0 {
			t.Error(i, "something was written")
		}
	}
	if left != 0 || len(all) != 7 {
		t.Error(left, len(all))
	}
}

// P4.2: the greatest record, and one that is too great, also where there is no room.
func TestGreatRecords(t *testing.T) {
	_, d := newDisk(t, api.MaxSectors)
	j := format(t, d, 0, api.MaxSectors)
	most := strings.Repeat("m", api.MaxRecord)
	for i := range 4 {
		tells(t, j, 4095-938*i, 4095, 1, i) // 24 and 60000 bytes are 938 sectors
		is(t, "Append", j.Append(most), api.OK)
		is(t, "Append", j.Append(most+"m"), api.ErrArg)
	}
	is(t, "Append", j.Append(most), api.ErrFull)
	is(t, "Append", j.Append(most+"m"), api.ErrArg)
	finds(t, d, 0, api.MaxSectors, j, most, most, most, most)
	is(t, "Reset", j.Reset(most, most, most, most, most), api.ErrFull)
	is(t, "Reset", j.Reset(most, most, most, most, most, most+"m"), api.ErrArg)
	is(t, "Reset", j.Reset(most+"m"), api.ErrArg)
	tells(t, j, 343, 4095, 1, 4)
	is(t, "Reset", j.Reset("a", most, "b", most), api.OK)
	tells(t, j, 2217, 4095, 2, 4)
	finds(t, d, 0, api.MaxSectors, j, "a", most, "b", most)
	small := format(t, d, 0, 4)
	is(t, "Append", small.Append(most), api.ErrFull)
	is(t, "Append", small.Append(most+"m"), api.ErrArg)
	is(t, "Reset", small.Reset("", "", most+"m"), api.ErrArg)
	tells(t, small, 1, 1, 1, 0)
}

// P4.2, P4.3: these records, in the place of all, in one half and in the other.
func TestReset(t *testing.T) {
	_, d := newDisk(t, 40)
	j := format(t, d, 4, 12)
	for i, c := range [][]string{{"a", "b"}, {}, {text("c", 5)}, nil, {"d", text("e", 2), "f", "g"}, {"", "", "", "", ""}, {"h"}} {
		is(t, "Reset", j.Reset(c...), api.OK)
		left := 5
		for _, record := range c {
			left -= (len(record) + 24 + 63) / 64
		}
		tells(t, j, left, 5, i+2, len(c))
		finds(t, d, 4, 12, j, c...)
		before := d.Image()
		is(t, "Reset of too much", j.Reset(append(c, text("x", 6))...), api.ErrFull)
		is(t, "Reset of too many", j.Reset(make([]string, 6)...), api.ErrFull)
		is(t, "Reset of one too great", j.Reset(append(make([]string, 6), strings.Repeat("x", api.MaxRecord+1))...), api.ErrArg)
		tells(t, j, left, 5, i+2, len(c))
		if d.Image() != before || d.Pending() != 0 {
			t.Error(i, "something was written")
		}
		if left > 0 {
			is(t, "Append", j.Append("more"), api.OK)
			tells(t, j, left-1, 5, i+2, len(c)+1)
			finds(t, d, 4, 12, j, append(slices.Clone(c), "more")...)
		}
	}
}

// P4.2: which half has which epoch, as it is laid down.
func TestHalves(t *testing.T) {
	_, d := newDisk(t, 20)
	j := format(t, d, 2, 10)
	halves := func(first, second uint64) {
		t.Helper()
		image := d.Image()
		if a, b := right(image[64*2:64*7]), right(image[64*7:64*12]); a != first || b != second {
			t.Errorf("epochs %d, %d, not %d, %d", a, b, first, second)
		}
	}
	halves(1, 0)
	for i := uint64(2); i < 8; i += 2 {
		is(t, "Reset", j.Reset("a"), api.OK)
		halves(i-1, i)
		is(t, "Append", j.Append("b"), api.OK)
		halves(i-1, i)
		is(t, "Reset", j.Reset("c", "d"), api.OK)
		halves(i+1, i)
	}
	image := d.Image()[64*2:]
	want := pack(7, 0, "journal") + pack(7, 1, "c") + pack(7, 2, "d")
	if image[:len(want)] != want {
		t.Errorf("laid down: %q", image[:len(want)])
	}
}

// P4.2: behind the last epoch there is none, but records may still be added.
func TestLastEpoch(t *testing.T) {
	_, d := newDisk(t, 20)
	raw(t, d, 2, pack(api.MaxEpoch-1, 0, "journal"))
	j, records := open(t, d, 2, 10)
	tells(t, j, 4, 4, api.MaxEpoch-1, 0)
	if len(records) != 0 {
		t.Error(records)
	}
	is(t, "Reset", j.Reset("a"), api.OK)
	tells(t, j, 3, 4, api.MaxEpoch, 1)
	for _, records := range [][]string{nil, {"b"}, make([]string, 5), {strings.Repeat("x", api.MaxRecord+1)}} {
		is(t, "Reset", j.Reset(records...), api.ErrArg)
	}
	is(t, "Append", j.Append("b"), api.OK)
	tells(t, j, 2, 4, api.MaxEpoch, 2)
	finds(t, d, 2, 10, j, "a", "b")
}

// P4.2, P4.3: a journal whose disk answered an error is closed for good, tells of itself what it told last, and does nothing any more.
func TestClosed(t *testing.T) {
	for what, call := range map[string]func(j *journal.Journal) error{
		"Append":           func(j *journal.Journal) error { return j.Append("x") },
		"Append of more":   func(j *journal.Journal) error { return j.Append(text("x", 2)) },
		"Reset":            func(j *journal.Journal) error { return j.Reset("x", "y", "z") },
		"Reset of nothing": func(j *journal.Journal) error { return j.Reset() },
	} {
		for fuse := -1; ; fuse++ {
			p, d := newDisk(t, 20)
			j := format(t, d, 2, 12)
			is(t, "Append", j.Append("a"), api.OK)
			code := api.ErrPower
			if fuse < 0 {
				d.Kill()
				code = api.ErrDead
			} else {
				p.Fuse(fuse)
			}
			err := call(j)
			if err == nil {
				break
			}
			ofDisk(t, what, err, code)
			p.On()
			d.Lose(nil, 0)
			tells(t, j, 4, 5, 1, 1)
			acts := p.Acts()
			for range 2 {
				is(t, "closed", j.Append("x"), api.ErrClosed)
				is(t, "closed", j.Append(text("x", 6)), api.ErrClosed)
				is(t, "closed", j.Append(strings.Repeat("x", api.MaxRecord+1)), api.ErrClosed)
				is(t, "closed", j.Reset("x"), api.ErrClosed)
				is(t, "closed", j.Reset(), api.ErrClosed)
				is(t, "closed", j.Reset(strings.Repeat("x", api.MaxRecord+1)), api.ErrClosed)
			}
			tells(t, j, 4, 5, 1, 1)
			if p.Acts() != acts || t.Failed() || fuse > 100 {
				t.Fatal(what, fuse, p.Acts()-acts)
			}
		}
	}
}

// P4.2: what may not be, and what has no room, is told ahead of what the disk says, and closes nothing.
func TestRefusedAheadOfTheDisk(t *testing.T) {
	p, d := newDisk(t, 20)
	j := format(t, d, 2, 12)
	p.Cut()
	is(t, "Append", j.Append(strings.Repeat("x", api.MaxRecord+1)), api.ErrArg)
	is(t, "Append", j.Append(text("x", 6)), api.ErrFull)
	is(t, "Reset", j.Reset(strings.Repeat("x", api.MaxRecord+1)), api.ErrArg)
	is(t, "Reset", j.Reset(text("x", 3), text("x", 3)), api.ErrFull)
	p.On()
	is(t, "Append", j.Append("a"), api.OK)
	finds(t, d, 2, 12, j, "a")
}
