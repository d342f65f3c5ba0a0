package disk_test

import (
	"math"
	"testing"

	"storehouse/api"
	"storehouse/disk"
)

// P2.1: new power is there, has no fuse, and nothing has been done.
func TestNewPower(t *testing.T) {
	p := disk.NewPower()
	if p.Gone() || p.Acts() != 0 {
		t.Error(p.Gone(), p.Acts())
	}
	d := newDisk(t, p, 2)
	for range 1000 {
		is(t, "Write", d.Write(1, full("a")), api.OK)
	}
	is(t, "Flush", d.Flush(), api.OK)
	if p.Gone() || p.Acts() != 1001 {
		t.Error(p.Gone(), p.Acts())
	}
}

// P2.1: Cut and On, called once or twice.
func TestCutAndOn(t *testing.T) {
	p := disk.NewPower()
	d := newDisk(t, p, 1)
	for range 2 {
		p.Cut()
		if !p.Gone() {
			t.Error("behind Cut")
		}
		is(t, "Flush", d.Flush(), api.ErrPower)
	}
	for range 2 {
		p.On()
		if p.Gone() {
			t.Error("behind On")
		}
		is(t, "Flush", d.Flush(), api.OK)
	}
	if p.Acts() != 2 {
		t.Error(p.Acts())
	}
}

// lasting is how many acts are done till the power is gone, and at most so many.
func lasting(t *testing.T, p *disk.Power, d *disk.Disk, most int) int {
	t.Helper()
	for n := range most {
		do := func() error { return d.Write(0, full("w")) }
		if n%2 != 0 {
			do = d.Flush
		}
		if p.Gone() {
			t.Errorf("gone behind %d acts, before the next one is tried", n)
		}
		if err := do(); err != nil {
			is(t, "the act behind the last", err, api.ErrPower)
			if !p.Gone() {
				t.Error("not gone")
			}
			return n
		}
	}
	return most
}

// P2.1, P2.3: a fuse of n lets n acts be done, and the next one not; below 0 there is none.
func TestFuse(t *testing.T) {
	for fuse, want := range map[int]int{0: 0, 1: 1, 2: 2, 3: 3, 17: 17, -1: 50, -2: 50, math.MinInt: 50, math.MaxInt: 50, 50: 50} {
		p := disk.NewPower()
		d := newDisk(t, p, 1)
		p.Fuse(fuse)
		if p.Gone() {
			t.Error("the fuse alone lets it go:", fuse)
		}
		if n := lasting(t, p, d, 50); n != want || p.Acts() != want {
			t.Errorf("fuse %d: %d acts, %d told", fuse, n, p.Acts())
		}
	}
}

// P2.1: the last Fuse counts, whatever there was before; On takes it away, also from a power that is there.
func TestFuseAnew(t *testing.T) {
	p := disk.NewPower()
	d := newDisk(t, p, 1)
	p.Fuse(3)
	is(t, "Flush", d.Flush(), api.OK)
	p.Fuse(5)
	if n := lasting(t, p, d, 9); n != 5 {
		t.Error("5 instead of what was left of 3:", n)
	}
	p.On()
	if n := lasting(t, p, d, 9); n != 9 {
		t.Error("a fuse behind On:", n)
	}
	p.Fuse(2)
	p.Fuse(-7)
	if n := lasting(t, p, d, 9); n != 9 {
		t.Error("a fuse that was taken away:", n)
	}
	p.Fuse(0)
	p.On()
	if n := lasting(t, p, d, 9); n != 9 {
		t.Error("On of a power that is there:", n)
	}
}

// P2.1: a fuse does not bring a power back that is gone, and is gone behind On.
func TestFuseOfNoPower(t *testing.T) {
	for _, let := range []func(*disk.Power, *disk.Disk){
		func(p *disk.Power, d *disk.Disk) { p.Cut() },
		func(p *disk.Power, d *disk.Disk) { p.Fuse(0); d.Flush() },
	} {
		for _, fuse := range []int{-1, 0, 4} {
			p := disk.NewPower()
			d := newDisk(t, p, 1)
			let(p, d)
			p.Fuse(fuse)
			is(t, "Flush", d.Flush(), api.ErrPower)
			if !p.Gone() {
				t.Error("a fuse brought it back")
			}
			p.On()
			if n := lasting(t, p, d, 9); n != 9 {
				t.Errorf("fuse %d behind On: %d", fuse, n)
			}
		}
	}
}

// P2.1, P2.3: all disks of a power burn its fuse, and are without power together; those of another one are not.
func TestPowerIsShared(t *testing.T) {
	p, other := disk.NewPower(), disk.NewPower()
	a, b, c := newDisk(t, p, 1), newDisk(t, p, 1), newDisk(t, other, 1)
	p.Fuse(2)
	is(t, "first", a.Write(0, full("a")), api.OK)
	is(t, "other", c.Write(0, full("c")), api.OK)
	is(t, "second", b.Write(0, full("b")), api.OK)
	is(t, "third", a.Flush(), api.ErrPower)
	if _, err := b.Read(0); err == nil {
		t.Error("power at the other disk")
	}
	reads(t, c, 0, full("c"))
	if !p.Gone() || other.Gone() || p.Acts() != 2 || other.Acts() != 1 {
		t.Error(p.Gone(), other.Gone(), p.Acts(), other.Acts())
	}
	other.Cut()
	p.On()
	reads(t, b, 0, full("b"))
	_, err := c.Read(0)
	is(t, "the other power", err, api.ErrPower)
}

// P2.1: what is refused is no act, and burns no fuse; nor is anything but Write and Flush.
func TestNoActs(t *testing.T) {
	p := disk.NewPower()
	d, dead := newDisk(t, p, 1), newDisk(t, p, 1)
	dead.Kill()
	p.Fuse(1)
	d.Write(1, full("a"))
	d.Write(-1, full("a"))
	d.Write(0, "short")
	dead.Write(0, full("a"))
	dead.Flush()
	d.Read(0)
	d.Rot(0, 0)
	d.Lose(nil, 9)
	d.Replace()
	d.Image()
	newDisk(t, p, 3)
	if p.Acts() != 0 || p.Gone() {
		t.Error(p.Acts(), p.Gone())
	}
	is(t, "the one act", d.Write(0, full("a")), api.OK)
	is(t, "a refused one", d.Write(0, "short"), api.ErrArg)
	if p.Acts() != 1 || p.Gone() {
		t.Error("what is refused lets it go:", p.Acts(), p.Gone())
	}
	is(t, "the next one", d.Write(0, full("b")), api.ErrPower)
	if p.Acts() != 1 || !p.Gone() {
		t.Error(p.Acts(), p.Gone())
	}
}
