package disk_test

import (
	"math"
	"strings"
	"testing"
	"unsafe"

	"storehouse/api"
	"storehouse/disk"
)

// numbers are those at which a place may go wrong.
var numbers = []int{math.MinInt, -65, -1, 0, 1, 2, 63, 64, 65, 511, 512, 8192, 8193, math.MaxInt}

// P1, P6: every call ends, and none panics, whatever it gets; of places that are none nothing comes but ErrArg.
func TestAnyArguments(t *testing.T) {
	for _, dead := range []bool{false, true} {
		p := disk.NewPower()
		d := newDisk(t, p, 64)
		if dead {
			d.Kill()
		}
		want := func(right bool) api.Errno {
			switch {
			case dead:
				return api.ErrDead
			case right:
				return api.OK
			}
			return api.ErrArg
		}
		for _, at := range numbers {
			there := 0 <= at && at < 64
			_, err := d.Read(at)
			is(t, "Read", err, want(there))
			for _, text := range []string{"", "a", full("\xff"), full("é"), strings.Repeat("x", 1000000)} {
				is(t, "Write", d.Write(at, text), want(there && len(text) == 64))
			}
			for _, bit := range numbers {
				is(t, "Rot", d.Rot(at, bit), want(there && 0 <= bit && bit < 512))
			}
			d.Lose(make([]bool, 3), at)
			d.Lose(nil, at)
			p.Fuse(at)
			p.On()
			if n, err := disk.New(p, at); (n != nil) != (err == nil) || (n != nil) != (1 <= at && at <= 8192) {
				t.Error("New", at, err)
			}
		}
	}
}

// P2: the errors' numbers, each in a fault that is new.
func TestErrors(t *testing.T) {
	if api.ErrArg != 1 || api.ErrPower != 10 || api.ErrDead != 11 || api.SectorSize != 64 || api.MaxSectors != 8192 {
		t.Error("a number of package api")
	}
	p, q := disk.NewPower(), disk.NewPower()
	q.Cut()
	d, dark, dead := newDisk(t, p, 1), newDisk(t, q, 1), newDisk(t, p, 1)
	dead.Kill()
	for name, call := range map[string]func() error{
		"New":           func() error { _, err := disk.New(p, 0); return err },
		"Read":          func() error { _, err := d.Read(1); return err },
		"Write":         func() error { return d.Write(0, "") },
		"Rot":           func() error { return d.Rot(0, 512) },
		"Rot, dead":     func() error { return dead.Rot(0, 0) },
		"Read, dead":    func() error { _, err := dead.Read(0); return err },
		"Flush, dark":   dark.Flush,
		"Flush, dead":   dead.Flush,
		"Write, burned": func() error { q.On(); q.Fuse(0); return dark.Write(0, full("a")) },
	} {
		a, aOK := call().(*api.Fault)
		b, bOK := call().(*api.Fault)
		if !aOK || !bOK || *a != *b || a == b {
			t.Errorf("%s: %v, %v", name, a, b)
		}
	}
}

// P2: what is refused changes nothing.
func TestRefusedChangesNothing(t *testing.T) {
	d := two(t)
	for _, at := range []int{-1, 2} {
		d.Write(at, full("x"))
		d.Rot(at, 0)
		d.Read(at)
	}
	d.Write(0, "x")
	d.Rot(0, 512)
	has(t, d, 3, full("a")+full("b"))
	reads(t, d, 0, full("C"))
	reads(t, d, 1, full("B"))
}

// P3: nothing that is handed in is written into, nor what stands behind it, and none of it is kept.
func TestNothingIsKept(t *testing.T) {
	d := newDisk(t, disk.NewPower(), 2)
	bytes := []byte(full("a") + full("b") + "behind")
	d.Write(0, unsafe.String(&bytes[0], 64))
	d.Write(1, unsafe.String(&bytes[64], 64))
	if string(bytes) != full("a")+full("b")+"behind" {
		t.Errorf("Write wrote: %q", bytes)
	}
	clear(bytes)
	reads(t, d, 0, full("a"))
	keep := []bool{true, true, false, true}
	d.Lose(keep[:1:2], 64)
	if keep[0] != true || keep[1] != true || keep[2] != false || keep[3] != true {
		t.Error("Lose wrote:", keep)
	}
	clear(keep)
	has(t, d, 0, full("a")+full("b"))
}

// P3: an answer is new memory, which nothing that is done behind it changes.
func TestAnswersAreNew(t *testing.T) {
	d, flushed := two(t), two(t)
	flushed.Flush()
	for name, call := range map[string]func() string{
		"Read, pending": func() string { s, _ := d.Read(0); return s },
		"Read, lasting": func() string { s, _ := flushed.Read(0); return s },
		"Image":         d.Image,
	} {
		if a, b := call(), call(); a != b || unsafe.StringData(a) == unsafe.StringData(b) {
			t.Errorf("%s: %q, %q", name, a, b)
		}
	}
	pending, _ := d.Read(0)
	image := d.Image()
	d.Flush()
	lasting, _ := d.Read(0)
	d.Rot(0, 0)
	d.Write(0, full("z"))
	d.Flush()
	d.Replace()
	if pending != full("C") || lasting != full("C") || image != full("a")+full("b") {
		t.Errorf("%q, %q, %q", pending, lasting, image)
	}
}

// P4: the same steps, the same answers, at another disk and another power.
func TestNothingElseCounts(t *testing.T) {
	told := func() string {
		d := two(t)
		d.Rot(1, 77)
		d.Lose([]bool{false, true}, 7)
		d.Write(1, full("w"))
		s, _ := d.Read(1)
		return s + d.Image()
	}
	want := told()
	for range 50 {
		if got := told(); got != want {
			t.Errorf("%q, not %q", got, want)
		}
	}
}

// P5: a list of nothing may be nil or empty.
func TestOfNothing(t *testing.T) {
	for _, keep := range [][]bool{nil, {}} {
		d := two(t)
		d.Lose(keep, 2)
		has(t, d, 0, torn("A", 2, "a")+full("b"))
		d.Lose(keep, 2)
		has(t, d, 0, torn("A", 2, "a")+full("b"))
	}
}
