package disk_test

import (
	"errors"
	"math"
	"strings"
	"testing"

	"storehouse/api"
	"storehouse/disk"
)

// is asks that an error is a fault of this number alone, or that there is none.
func is(t *testing.T, what string, err error, code api.Errno) {
	t.Helper()
	if code == api.OK {
		if err != nil {
			t.Errorf("%s: %v", what, err)
		}
		return
	}
	f, ok := err.(*api.Fault)
	if !ok || *f != (api.Fault{Code: code}) || !errors.Is(err, code) {
		t.Errorf("%s: %v, not %d", what, err, code)
	}
}

// newDisk is a disk that may be.
func newDisk(t *testing.T, p *disk.Power, sectors int) *disk.Disk {
	t.Helper()
	d, err := disk.New(p, sectors)
	if d == nil || err != nil {
		t.Fatal(sectors, err)
	}
	return d
}

// full is a sector of one byte.
func full(s string) string { return strings.Repeat(s, 64) }

// nought is a sector to which nothing was written.
var nought = full("\x00")

// reads asks that a sector reads as want.
func reads(t *testing.T, d *disk.Disk, at int, want string) {
	t.Helper()
	if s, err := d.Read(at); s != want || err != nil {
		t.Errorf("sector %d reads as %q, %v, not as %q", at, s, err, want)
	}
}

// has asks for all that lasts, and how many writes are pending.
func has(t *testing.T, d *disk.Disk, pending int, lasts string) {
	t.Helper()
	if d.Pending() != pending || d.Image() != lasts {
		t.Errorf("%d are pending, %q lasts; not %d, %q", d.Pending(), d.Image(), pending, lasts)
	}
}

// P2.2: how many sectors a disk may have.
func TestNew(t *testing.T) {
	p := disk.NewPower()
	for _, n := range []int{0, -1, 8193, math.MinInt, math.MaxInt, 1 << 32} {
		d, err := disk.New(p, n)
		is(t, "New", err, api.ErrArg)
		if d != nil {
			t.Error("a disk of", n)
		}
	}
	for _, n := range []int{1, 2, 3, 64, 1000, 8191, 8192} {
		d := newDisk(t, p, n)
		if d.Sectors() != n || d.Dead() || d.Life() != 0 {
			t.Error(n, d.Sectors(), d.Dead(), d.Life())
		}
		has(t, d, 0, strings.Repeat("\x00", 64*n))
		reads(t, d, 0, nought)
		reads(t, d, n-1, nought)
		_, err := d.Read(n)
		is(t, "behind the end", err, api.ErrArg)
	}
}

// P2.2: a disk may be made without power, at which it can't be read.
func TestNewWithoutPower(t *testing.T) {
	p := disk.NewPower()
	p.Cut()
	d := newDisk(t, p, 2)
	if d.Dead() || d.Sectors() != 2 {
		t.Error(d.Dead(), d.Sectors())
	}
	_, err := d.Read(0)
	is(t, "Read", err, api.ErrPower)
	has(t, d, 0, nought+nought)
}

// P2.2: Sectors is the same, whatever is done.
func TestSectors(t *testing.T) {
	p := disk.NewPower()
	d := newDisk(t, p, 5)
	for i, do := range []func(){
		func() { d.Write(4, full("a")) }, func() { d.Flush() }, func() { d.Lose(nil, 0) }, p.Cut, d.Kill, p.On, d.Kill, d.Replace, d.Replace,
	} {
		do()
		if d.Sectors() != 5 {
			t.Error(i, d.Sectors())
		}
	}
}

// P2.3: what is written reads, pending or not; what is written behind it takes its place.
func TestWriteAndRead(t *testing.T) {
	d := newDisk(t, disk.NewPower(), 3)
	is(t, "Write", d.Write(1, full("a")), api.OK)
	reads(t, d, 1, full("a"))
	reads(t, d, 0, nought)
	has(t, d, 1, nought+nought+nought)
	is(t, "Write", d.Write(1, full("b")), api.OK)
	is(t, "Write", d.Write(2, full("c")), api.OK)
	reads(t, d, 1, full("b"))
	has(t, d, 3, nought+nought+nought)
	is(t, "Flush", d.Flush(), api.OK)
	has(t, d, 0, nought+full("b")+full("c"))
	is(t, "Write", d.Write(1, full("d")), api.OK)
	reads(t, d, 1, full("d"))
	reads(t, d, 2, full("c"))
	has(t, d, 1, nought+full("b")+full("c"))
	is(t, "Flush", d.Flush(), api.OK)
	is(t, "Flush of nothing", d.Flush(), api.OK)
	has(t, d, 0, nought+full("d")+full("c"))
}

// P2.3: all bytes, each at its place.
func TestAnyBytesRead(t *testing.T) {
	d := newDisk(t, disk.NewPower(), 4)
	all := ""
	for at := range 4 {
		text := make([]byte, 64)
		for i := range text {
			text[i] = byte(64*at + i)
		}
		all += string(text)
		is(t, "Write", d.Write(at, string(text)), api.OK)
		reads(t, d, at, string(text))
	}
	is(t, "Flush", d.Flush(), api.OK)
	has(t, d, 0, all)
	for at := range 4 {
		reads(t, d, at, all[64*at:64*at+64])
	}
}

// P2.3: sectors that there are not, and texts that are none.
func TestWrongArguments(t *testing.T) {
	p := disk.NewPower()
	d := newDisk(t, p, 2)
	is(t, "Write", d.Write(0, full("a")), api.OK)
	for _, at := range []int{-1, 2, 3, 8192, math.MinInt, math.MaxInt} {
		s, err := d.Read(at)
		is(t, "Read", err, api.ErrArg)
		if s != "" {
			t.Errorf("Read(%d): %q", at, s)
		}
		is(t, "Write", d.Write(at, full("b")), api.ErrArg)
	}
	for _, n := range []int{0, 1, 63, 65, 128} {
		is(t, "Write", d.Write(0, strings.Repeat("b", n)), api.ErrArg)
	}
	has(t, d, 1, nought+nought)
	reads(t, d, 0, full("a"))
	if p.Acts() != 1 {
		t.Error(p.Acts())
	}
}

// P2.3: of several errors that of the power comes first, then that of the disk, that of the arguments, and that of the fuse.
func TestWhichError(t *testing.T) {
	p := disk.NewPower()
	d, dead := newDisk(t, p, 1), newDisk(t, p, 1)
	dead.Kill()
	for _, c := range []struct {
		what        string
		let         func()
		sound, none api.Errno
	}{
		{"with power", p.On, api.ErrArg, api.ErrDead},
		{"with a fuse of 0", func() { p.Fuse(0) }, api.ErrArg, api.ErrDead},
		{"without power", p.Cut, api.ErrPower, api.ErrPower},
	} {
		c.let()
		_, e1 := d.Read(7)
		_, e2 := dead.Read(7)
		_, e3 := dead.Read(0)
		is(t, c.what+": Read where nothing is", e1, c.sound)
		is(t, c.what+": Read where nothing is, of a dead one", e2, c.none)
		is(t, c.what+": Read of a dead one", e3, c.none)
		is(t, c.what+": Write where nothing is", d.Write(7, full("a")), c.sound)
		is(t, c.what+": Write of no sector", d.Write(0, "a"), c.sound)
		is(t, c.what+": Write to a dead one", dead.Write(0, full("a")), c.none)
		is(t, c.what+": Write where nothing is, to a dead one", dead.Write(7, "a"), c.none)
		is(t, c.what+": Flush of a dead one", dead.Flush(), c.none)
	}
}

// P2.3: without power, or at the end of a fuse, nothing is written, flushed or read; what was pending is so still.
func TestWithoutPower(t *testing.T) {
	for what, let := range map[string]func(*disk.Power){"Cut": (*disk.Power).Cut, "Fuse": func(p *disk.Power) { p.Fuse(0) }} {
		p := disk.NewPower()
		d := newDisk(t, p, 2)
		d.Write(0, full("a"))
		let(p)
		if what == "Fuse" {
			reads(t, d, 0, full("a")) // a fuse of 0 lets one read
		}
		is(t, what, d.Write(0, full("b")), api.ErrPower)
		is(t, what, d.Flush(), api.ErrPower)
		is(t, what, d.Write(1, full("b")), api.ErrPower)
		s, err := d.Read(0)
		is(t, what, err, api.ErrPower)
		if s != "" || !p.Gone() || p.Acts() != 1 {
			t.Errorf("%s: %q, %v, %d", what, s, p.Gone(), p.Acts())
		}
		has(t, d, 1, nought+nought)
		p.On()
		reads(t, d, 0, full("a"))
		reads(t, d, 1, nought)
		is(t, what, d.Flush(), api.OK)
		has(t, d, 0, full("a")+nought)
	}
}

// P2.3: a fuse that ends at a Flush leaves pending what was.
func TestFuseAtFlush(t *testing.T) {
	p := disk.NewPower()
	d := newDisk(t, p, 1)
	p.Fuse(1)
	is(t, "Write", d.Write(0, full("a")), api.OK)
	is(t, "Flush", d.Flush(), api.ErrPower)
	has(t, d, 1, nought)
	p.On()
	p.Fuse(1)
	is(t, "Flush", d.Flush(), api.OK)
	has(t, d, 0, full("a"))
	if p.Gone() || p.Acts() != 2 {
		t.Error(p.Gone(), p.Acts())
	}
}

// P2.4, P2.6: what is pending, and lasts, of one disk is that one's alone.
func TestDisksAreApart(t *testing.T) {
	p := disk.NewPower()
	a, b := newDisk(t, p, 1), newDisk(t, p, 1)
	a.Write(0, full("a"))
	b.Write(0, full("b"))
	is(t, "Flush", a.Flush(), api.OK)
	has(t, a, 0, full("a"))
	has(t, b, 1, nought)
	b.Kill()
	reads(t, a, 0, full("a"))
	if a.Dead() || a.Life() != 0 {
		t.Error(a.Dead(), a.Life())
	}
}

// P2.7: what was flushed reads as it was written, till it is written anew.
func TestFlushedStays(t *testing.T) {
	p := disk.NewPower()
	d := newDisk(t, p, 50)
	for at := range 50 {
		is(t, "Write", d.Write(at, full(string(rune('0'+at)))), api.OK)
	}
	is(t, "Flush", d.Flush(), api.OK)
	for round := range 5 {
		d.Write(7, full("x"))
		p.Fuse(round)
		d.Write(8, full("y"))
		d.Write(9, full("z"))
		p.Cut()
		d.Lose(nil, 0)
		p.On()
		for at := range 50 {
			reads(t, d, at, full(string(rune('0'+at))))
		}
	}
}
