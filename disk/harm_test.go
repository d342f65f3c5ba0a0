package disk_test

import (
	"math"
	"strings"
	"testing"

	"storehouse/api"
	"storehouse/disk"
)

// two is a disk of 2 sectors, of which a and b last, with three writes pending: A to the first, B to the second, C to the first.
func two(t *testing.T) *disk.Disk {
	t.Helper()
	d := newDisk(t, disk.NewPower(), 2)
	d.Write(0, full("a"))
	d.Write(1, full("b"))
	d.Flush()
	d.Write(0, full("A"))
	d.Write(1, full("B"))
	d.Write(0, full("C"))
	has(t, d, 3, full("a")+full("b"))
	return d
}

// torn is a sector of which the first n bytes are of one byte.
func torn(first string, n int, rest string) string { return strings.Repeat(first, n) + full(rest)[n:] }

// P2.4: which of the pending writes last, and of which one the beginning.
func TestLose(t *testing.T) {
	for i, c := range []struct {
		keep        []bool
		torn        int
		first, then string
	}{
		{nil, 0, full("a"), full("b")},
		{[]bool{}, 0, full("a"), full("b")},
		{[]bool{true, true, true}, 0, full("C"), full("B")},
		{[]bool{true, true, true}, 64, full("C"), full("B")},
		{[]bool{true, true, true, false, true}, 9, full("C"), full("B")},
		{[]bool{true}, 0, full("A"), full("b")},
		{[]bool{true, true}, 0, full("A"), full("B")},
		{[]bool{true, false, true}, 0, full("C"), full("b")},
		{[]bool{false, false, true}, 0, full("C"), full("b")},
		{[]bool{false, true}, 0, full("a"), full("B")},
		// torn: the first one that does not last, and no other
		{nil, 1, torn("A", 1, "a"), full("b")},
		{nil, 63, torn("A", 63, "a"), full("b")},
		{[]bool{true}, 5, full("A"), torn("B", 5, "b")},
		{[]bool{true, true}, 5, torn("C", 5, "A"), full("B")},
		{[]bool{false, true}, 5, torn("A", 5, "a"), full("B")},
		{[]bool{true, false, true}, 5, full("C"), torn("B", 5, "b")},
		{[]bool{false, false, true}, 5, full("C"), full("b")}, // what lasts behind it lies over it
		// at its ends
		{nil, 64, full("A"), full("b")},
		{nil, 65, full("A"), full("b")},
		{nil, math.MaxInt, full("A"), full("b")},
		{nil, -1, full("a"), full("b")},
		{nil, math.MinInt, full("a"), full("b")},
		{[]bool{true, true}, 99, full("C"), full("B")},
	} {
		d := two(t)
		d.Lose(c.keep, c.torn)
		has(t, d, 0, c.first+c.then)
		reads(t, d, 0, c.first)
		reads(t, d, 1, c.then)
		if t.Failed() {
			t.Fatal("case", i, c.keep, c.torn)
		}
	}
}

// P2.4: how many writes are pending: each counts, also of one sector, and also of what is there already.
func TestPending(t *testing.T) {
	d := newDisk(t, disk.NewPower(), 1)
	for round := range 3 {
		for n := range 100 {
			if d.Pending() != n {
				t.Error(round, n, d.Pending())
			}
			d.Write(0, full("a"))
		}
		switch round {
		case 0:
			d.Flush()
		case 1:
			d.Lose([]bool{true}, 0)
		}
		if round < 2 && d.Pending() != 0 {
			t.Error(round, d.Pending())
		}
	}
	d.Replace()
	if d.Pending() != 0 {
		t.Error("of another disk:", d.Pending())
	}
}

// P2.4: the writes are numbered anew behind a Flush and a Lose.
func TestLoseAgain(t *testing.T) {
	d := two(t)
	d.Lose([]bool{false, true}, 3)
	d.Lose([]bool{true, true, true}, 64)
	has(t, d, 0, torn("A", 3, "a")+full("B"))
	d.Write(1, full("x"))
	d.Write(0, full("y"))
	reads(t, d, 1, full("x"))
	d.Lose([]bool{true}, 2)
	has(t, d, 0, torn("y", 2, "A")[:3]+full("a")[3:]+full("x"))
	d.Write(0, full("z"))
	d.Flush()
	d.Lose(nil, 64)
	has(t, d, 0, full("z")+full("x"))
}

// P2.4: Lose asks for no power, brings none, and is nothing to a dead disk.
func TestLoseWithoutPower(t *testing.T) {
	p := disk.NewPower()
	d := newDisk(t, p, 2)
	d.Write(0, full("a"))
	d.Write(1, full("b"))
	p.Cut()
	d.Lose([]bool{true}, 0)
	has(t, d, 0, full("a")+nought)
	if !p.Gone() || p.Acts() != 2 {
		t.Error(p.Gone(), p.Acts())
	}
	p.On()
	d.Write(0, full("c"))
	d.Kill()
	d.Lose([]bool{true}, 64)
	has(t, d, 0, "")
	if !d.Dead() {
		t.Error("it lives")
	}
}

// P2.4, P2.7: behind Lose of nothing a disk reads as behind its last Flush.
func TestLoseAll(t *testing.T) {
	d := two(t)
	image := d.Image()
	d.Lose(nil, 0)
	if d.Image() != image {
		t.Errorf("%q", d.Image())
	}
	reads(t, d, 0, image[:64])
	reads(t, d, 1, image[64:])
}

// P2.5, P2.6: of a dead disk nothing can be read, and nothing is pending; in its place comes a blank one.
func TestKillAndReplace(t *testing.T) {
	d := two(t)
	d.Kill()
	for range 2 {
		if !d.Dead() {
			t.Error("not dead")
		}
		s, err := d.Read(0)
		is(t, "Read", err, api.ErrDead)
		if s != "" {
			t.Errorf("%q", s)
		}
		is(t, "Write", d.Write(0, full("x")), api.ErrDead)
		is(t, "Flush", d.Flush(), api.ErrDead)
		is(t, "Rot", d.Rot(0, 0), api.ErrDead)
		has(t, d, 0, "")
		d.Kill()
	}
	d.Replace()
	if d.Dead() || d.Sectors() != 2 {
		t.Error(d.Dead(), d.Sectors())
	}
	has(t, d, 0, nought+nought)
	reads(t, d, 0, nought)
	reads(t, d, 1, nought)
	_, err := d.Read(2)
	is(t, "behind the end", err, api.ErrArg)
	is(t, "Write", d.Write(1, full("n")), api.OK)
	is(t, "Flush", d.Flush(), api.OK)
	has(t, d, 0, nought+full("n"))
}

// P2.5: a disk that is not dead is replaced, too, with what is pending at it.
func TestReplaceALiving(t *testing.T) {
	d := two(t)
	d.Replace()
	has(t, d, 0, nought+nought)
	reads(t, d, 0, nought)
	d.Lose([]bool{true, true, true}, 64)
	is(t, "Flush", d.Flush(), api.OK)
	has(t, d, 0, nought+nought)
	if d.Dead() || d.Life() != 1 {
		t.Error(d.Dead(), d.Life())
	}
}

// P2.5: Life counts each call of Kill and Replace, and nothing else.
func TestLife(t *testing.T) {
	p := disk.NewPower()
	d := newDisk(t, p, 1)
	for i, do := range []func(){d.Kill, d.Kill, d.Replace, d.Replace, d.Kill, d.Replace} {
		if d.Life() != i {
			t.Error(i, d.Life())
		}
		do()
		p.Cut()
		d.Lose(nil, 0)
		d.Rot(0, 0)
		p.On()
		d.Write(0, full("a"))
		d.Flush()
	}
	if d.Life() != 6 {
		t.Error(d.Life())
	}
}

// P2.5: disks die, and are replaced, without power.
func TestKillWithoutPower(t *testing.T) {
	p := disk.NewPower()
	d := newDisk(t, p, 1)
	d.Write(0, full("a"))
	d.Flush()
	p.Cut()
	d.Kill()
	if !d.Dead() || !p.Gone() {
		t.Error(d.Dead(), p.Gone())
	}
	d.Replace()
	has(t, d, 0, nought)
	if d.Dead() || !p.Gone() || p.Acts() != 2 {
		t.Error(d.Dead(), p.Gone(), p.Acts())
	}
	_, err := d.Read(0)
	is(t, "Read", err, api.ErrPower)
}

// P2.5: each bit of a sector, turned and turned back.
func TestRot(t *testing.T) {
	d := newDisk(t, disk.NewPower(), 3)
	d.Write(1, full("\xa5"))
	d.Flush()
	for bit := range 512 {
		text := []byte(full("\xa5"))
		text[bit/8] ^= []byte{1, 2, 4, 8, 16, 32, 64, 128}[bit%8]
		is(t, "Rot", d.Rot(1, bit), api.OK)
		reads(t, d, 1, string(text))
		has(t, d, 0, nought+string(text)+nought)
		is(t, "Rot", d.Rot(1, bit), api.OK)
		reads(t, d, 1, full("\xa5"))
	}
}

// P2.5: what can't be turned.
func TestRotWrong(t *testing.T) {
	d := newDisk(t, disk.NewPower(), 2)
	for _, c := range []struct{ at, bit int }{
		{-1, 0}, {2, 0}, {math.MinInt, 0}, {math.MaxInt, 0}, {0, -1}, {0, 512}, {1, math.MinInt}, {1, math.MaxInt}, {2, 512},
	} {
		is(t, "Rot", d.Rot(c.at, c.bit), api.ErrArg)
		has(t, d, 0, nought+nought)
		reads(t, d, 0, nought)
	}
	d.Kill()
	is(t, "Rot of a dead one, where nothing is", d.Rot(7, 512), api.ErrDead)
}

// P2.5: a pending write does not rot, and what lasts beneath it does.
func TestRotBeneath(t *testing.T) {
	d := two(t)
	is(t, "Rot", d.Rot(0, 1), api.OK)
	has(t, d, 3, "c"+full("a")[1:]+full("b"))
	reads(t, d, 0, full("C"))
	d.Lose(nil, 0)
	reads(t, d, 0, "c"+full("a")[1:])
	d = two(t)
	d.Rot(0, 1)
	d.Rot(0, 511)
	d.Lose(nil, 1)
	reads(t, d, 0, "A"+full("a")[2:]+"\xe1")
	d = two(t)
	d.Rot(0, 1)
	d.Flush()
	has(t, d, 0, full("C")+full("B"))
}

// P2.5: Rot is no act, and asks for no power.
func TestRotWithoutPower(t *testing.T) {
	p := disk.NewPower()
	d := newDisk(t, p, 1)
	p.Cut()
	is(t, "Rot", d.Rot(0, 9), api.OK)
	has(t, d, 0, "\x00\x02"+nought[2:])
	if p.Acts() != 0 || !p.Gone() {
		t.Error(p.Acts(), p.Gone())
	}
	p.On()
	reads(t, d, 0, "\x00\x02"+nought[2:])
}

// P2.6: the image is what lasts, with power or without.
func TestImage(t *testing.T) {
	p := disk.NewPower()
	d := newDisk(t, p, 3)
	d.Write(2, full("c"))
	d.Write(0, full("a"))
	has(t, d, 2, nought+nought+nought)
	p.Cut()
	has(t, d, 2, nought+nought+nought)
	p.On()
	d.Flush()
	p.Cut()
	has(t, d, 0, full("a")+nought+full("c"))
}
